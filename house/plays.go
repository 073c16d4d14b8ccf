package house

import (
	"strconv"

	"postern/api"
	"postern/journal"
	"postern/pick"
	"postern/snap"
	"postern/sweep"
	"postern/twin"
)

// begin tells the Play as it was at its beginning.
func (h *House) begin() *pick.Play {
	p, e := h.play.Begin()
	must(e)
	return p
}

// alike tells whether lines are alike, or where they are not.
func alike(who, at int, is bool, e api.Errno) []string {
	must(e)
	if !is {
		return one(pair(who, at))
	}
	return one("alike")
}

func (h *House) askTwin(a args) []string {
	a.end()
	begin := h.begin()
	joined, e := twin.Joined(begin)
	if e == api.ErrTwin {
		return nil
	}
	must(e)
	var turns []api.Turn
	for _, d := range h.play.Each() {
		turns = append(turns, d.Turn)
	}
	return alike(twin.Alike(begin, joined, turns...))
}

func (h *House) askParted(a args) []string {
	edge, side := a.edge(), a.side()
	var turns []api.Turn
	for a.more() {
		turns = append(turns, api.Turn{Who: a.who()})
	}
	a.end()
	return alike(twin.Parted(h.play, edge, side, turns...))
}

func (h *House) askLive(a args) []string {
	a.end()
	live, e := sweep.Live(h.play.World(), h.play.Subjects()...)
	must(e)
	return refs(live)
}

func (h *House) askSweep(a args) []string {
	a.end()
	w, l := h.play.World(), h.play.Subjects()
	swept, e := sweep.Sweep(w, l...)
	must(e)
	next, e := pick.New(w, l...)
	must(e)
	h.play = next
	return refs(swept)
}

func (h *House) askSnap(a args) []string {
	a.end()
	s, e := snap.Write(h.play)
	must(e)
	next, e := snap.Read(s)
	must(e)
	h.play = next
	return one(strconv.Itoa(len(s)))
}

func (h *House) askTight(a args) []string {
	a.end()
	next, old, e := snap.Tight(h.play)
	must(e)
	h.play = next
	return refs(old)
}

func (h *House) askTorn(a args) []string {
	n := a.number()
	a.end()
	j, e := journal.New(h.begin())
	must(e)
	for _, d := range h.play.Each() {
		_, _, e := j.Turn(d.Turn)
		must(e)
	}
	s := j.Bytes()
	j, _, e = journal.Open(s[:min(n, int64(len(s)))])
	if e == api.ErrHead {
		return nil
	}
	must(e)
	return one(strconv.Itoa(j.Len()))
}
