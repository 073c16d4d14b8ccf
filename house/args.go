package house

import (
	"postern/able"
	"postern/api"
)

// args takes the Args of a question from the front. What is not as it must be is remembered, and given up with at the end:
// ahead of that nothing is done.
type args struct {
	who    func() int      // a subject's place
	side   func() api.Side // a side
	edge   func() int      // an edge
	number func() int64    // any number from 0 on
	able   func() api.Able // the text of just one ability
	ref    func() api.Ref  // a reference to a thing
	mint   func() api.Ref  // one to a mint
	more   func() bool     // whether there is something left
	end    func()          // nothing is left, and all was as it must be
}

// take makes what takes the Args of a question.
func (h *House) take(left []api.Value) args {
	w, wrong := h.play.World(), false
	next := func(kind api.ValueKind) api.Value {
		if len(left) == 0 || left[0].Kind != kind {
			wrong = true
			return api.Value{}
		}
		v := left[0]
		left = left[1:]
		return v
	}
	within := func(least, behind int) int {
		n := next(api.Number).N
		if n < int64(least) || n >= int64(behind) {
			wrong = true
			return 0
		}
		return int(n)
	}
	a := args{
		who:  func() int { return within(0, len(h.lines)) },
		side: func() api.Side { return api.Side(within(0, w.Sides())) },
		edge: func() int { return within(1, w.Sides()) },
		more: func() bool { return len(left) > 0 && !wrong },
	}
	a.number = func() int64 {
		n := next(api.Number).N
		wrong = wrong || n < 0
		return n
	}
	a.able = func() api.Able {
		set, e := able.Read(next(api.Text).S)
		wrong = wrong || e != api.OK || !able.One(set)
		return set
	}
	a.ref = func() api.Ref {
		r := next(api.Reference).R
		wrong = wrong || !w.Is(r)
		return r
	}
	a.mint = func() api.Ref {
		r := a.ref()
		wrong = wrong || w.Kind(r) != api.Mint
		return r
	}
	a.end = func() {
		if wrong || len(left) > 0 {
			must(api.ErrAsk)
		}
	}
	return a
}
