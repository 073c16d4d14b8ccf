package never

import (
	"encoding/hex"
	"math/rand"
	"slices"
	"strings"
	"testing"

	"postern/api"
	"postern/bound"
	"postern/lang"
	"postern/pick"
	"postern/plan"
	"postern/run"
	"postern/value"
	"postern/world"
)

func ref(r api.Ref) api.Value       { return api.Value{Kind: api.Reference, R: r} }
func list(l ...api.Value) api.Value { return api.Value{Kind: api.List, L: l} }
func sub(n int) api.Holder          { return api.Holder{Subject: n} }
func is(r api.Ref) api.Spot         { return api.Spot{Kind: api.SpotThing, Ref: r} }
func quest(by int, able api.Able, thing api.Ref) api.Question {
	return api.Question{By: by, Able: able, Thing: thing}
}

func who(t *testing.T, w *world.World, side api.Side, s string, l ...any) api.Subject {
	t.Helper()
	c, at, e := lang.Read(s)
	if e != api.OK {
		t.Fatal(s, at, e)
	}
	var names []api.Name
	for i := 0; i < len(l); i += 2 {
		names = append(names, api.Name{Name: l[i].(string), Value: ref(l[i+1].(api.Ref))})
	}
	x, e := run.New(w, side, c, names)
	if e != api.OK {
		t.Fatal(s, e)
	}
	return x
}

const (
	c = api.Ref(1)
	l = api.Ref(2)
	m = api.Ref(3)
	b = api.Ref(6)
)

// chapter is the world of the chapter's examples.
func chapter(t *testing.T) (*world.World, []api.Subject) {
	t.Helper()
	w, _ := world.New()
	for _, x := range []api.What{{Kind: api.Cell}, {Kind: api.Log}, {Kind: api.Log}, {Kind: api.Sealer}, {Kind: api.Opener, Of: 4}, {Kind: api.Box, Of: 4, Value: ref(m)}} {
		if _, e := w.Make(x); e != api.OK {
			t.Fatal(e)
		}
	}
	put, _ := w.Facet(c, api.Put)
	get, _ := w.Facet(c, api.Get)
	return w, []api.Subject{who(t, w, 0, "", "c", put, "l", l), who(t, w, 0, "", "c", get, "b", b)}
}

func TestErrors(t *testing.T) {
	w, s := chapter(t)
	bad := slices.Clone(s)
	bad[0].Side = 4
	long := strings.Repeat("x", api.MaxCert+1)
	for _, z := range []*world.World{nil, {}} {
		_, e1 := Ask(z, quest(9, 0, 0), bad...)
		_, e2 := Make(z, quest(9, 0, 0), bad...)
		_, e3 := Check(z, long, bad...)
		_, f, e4 := Read(z, long, bad...)
		_, _, is, e5 := Wanting(z, long, bad...)
		if e1 != api.ErrNil || e2 != api.ErrNil || e3 != api.ErrNil || e4 != api.ErrNil || e5 != api.ErrNil || f != nil || is {
			t.Error(e1, e2, e3, e4, e5)
		}
	}
	_, e1 := Ask(w, quest(9, 0, 0), bad...)
	_, e2 := Make(w, quest(9, 0, 0), bad...)
	_, e3 := Check(w, long, bad...)
	_, _, e4 := Read(w, long, bad...)
	_, _, _, e5 := Wanting(w, long, bad...)
	if e1 != api.ErrArg || e2 != api.ErrArg || e3 != api.ErrArg || e4 != api.ErrArg || e5 != api.ErrArg {
		t.Error(e1, e2, e3, e4, e5)
	}
	_, e3 = Check(w, long, s...)
	_, f, e4 := Read(w, long, s...)
	_, _, _, e5 = Wanting(w, long, s...)
	if e3 != api.ErrLong || e4 != api.ErrLong || e5 != api.ErrLong || f != nil {
		t.Error(e3, e4, e5)
	}
	facts, _ := bound.Bound(w, s...)
	for i, q := range []api.Question{quest(1, api.Give, 99), quest(7, api.Give, l), quest(1, api.Get|api.Put, c), quest(-1, api.Get, c), quest(0, 0, c), quest(0, 64, c), quest(0, api.Get, 0)} {
		_, e1 := Ask(w, q, s...)
		_, e2 := Make(w, q, s...)
		_, e3 := Write(q, facts)
		_, _, e4 := Size(q, facts)
		if e1 != api.ErrArg || e2 != api.ErrArg || e3 != api.ErrArg || e4 != api.ErrArg {
			t.Error(i, e1, e2, e3, e4)
		}
	}
	for _, f := range []*bound.Facts{nil, {}} {
		_, e1 := Write(quest(9, 0, 0), f)
		_, _, e2 := Size(quest(9, 0, 0), f)
		if e1 != api.ErrNil || e2 != api.ErrNil {
			t.Error(e1, e2)
		}
	}
	for w.Made(0) < api.MaxThings {
		w.Make(api.What{Kind: api.Cell})
	}
	_, e1 = Ask(w, quest(9, 0, 0), s...)
	_, e2 = Make(w, quest(9, 0, 0), s...)
	_, e3 = Check(w, long, s...)
	if e1 != api.ErrMany || e2 != api.ErrMany || e3 != api.ErrMany {
		t.Error(e1, e2, e3)
	}
}

func TestP25_1AskMake(t *testing.T) {
	w, s := chapter(t)
	for i, x := range []struct {
		q     api.Question
		never bool
	}{{quest(1, api.Give, l), false}, {quest(1, api.Put, c), false}, {quest(0, api.Get, l), false}, {quest(0, api.Get, m), true}, {quest(1, api.Get, m), true}, {quest(0, api.Take, c), true}, {quest(1, api.Get, 8), false}, {quest(0, api.Ask, 4), true}} {
		never, e := Ask(w, x.q, s...)
		cert, f := Make(w, x.q, s...)
		if never != x.never || e != api.OK || (f == api.OK) != never || !never && (f != api.ErrMay || cert != "") {
			t.Error(i, never, e, f)
		}
	}
	cert, _ := Make(w, quest(0, api.Get, m), s...)
	if got := hex.EncodeToString([]byte(cert[:11])); got != "4e455601"+"0000"+"01"+"00000003" {
		t.Error(got)
	}
	if q, e := Check(w, cert, s...); q != quest(0, api.Get, m) || e != api.OK {
		t.Error(q, e)
	}
}

// small is a world of a cell that subject 0 holds by put, and its facts; the bytes as the chapter has them.
func small(t *testing.T) (*world.World, api.Subject, string) {
	t.Helper()
	w, _ := world.New()
	w.Make(api.What{Kind: api.Cell})
	w.Lay(1, api.What{Kind: api.Cell, Value: ref(1)})
	put, _ := w.Facet(1, api.Put)
	s := who(t, w, 0, "", "c", put)
	holder, mark := "00"+"00000000", "01"+"00000001"+"00"+"00000000"
	return w, s, "4e455601" + "0000" + "01" + "00000001" + "00000002" + "00" + holder + mark + "02" + "01" + mark + mark + "03"
}

func TestP25_3Bytes(t *testing.T) {
	w, s, want := small(t)
	f, _ := bound.Of(w, s)
	cert, e := Write(quest(0, api.Get, 1), f)
	if got := hex.EncodeToString([]byte(cert)); got != want || e != api.OK {
		t.Error(got, e)
	}
	if rows, n, e := Size(quest(0, api.Get, 1), f); rows != 2 || n != len(want)/2 || e != api.OK {
		t.Error(rows, n, e)
	}
	f.Add(api.Fact{By: sub(0), What: api.Spot{Kind: api.SpotMade, Of: sub(0)}})
	k, _ := w.Make(api.What{Kind: api.Clerk})
	m, _ := w.Make(api.What{Kind: api.Mint})
	p, _ := w.Make(api.What{Kind: api.Sealer})
	f, _ = bound.Empty(w, s)
	u := api.Holder{Clerk: k}
	f.Add(api.Fact{By: u, What: api.Spot{Kind: api.SpotPurse, Ref: m}, Can: api.Take})
	f.Add(api.Fact{In: api.Spot{Kind: api.SpotMade, Of: u}, What: api.Spot{Kind: api.SpotBox, Ref: p, Of: sub(0)}})
	cert, e = Write(quest(0, api.Ask, k), f)
	want = "4e455601" + "0000" + "10" + "00000003" + "00000002" + "00" + "0100000003" + "04" + "00000004" + "0000000000" + "04" + "01" + "02" + "00000000" + "0100000003" + "03" + "00000005" + "0000000000" + "00"
	if got := hex.EncodeToString([]byte(cert)); got != want || e != api.OK {
		t.Error(got, e)
	}
	q, g, e := Read(w, cert, s)
	if q != quest(0, api.Ask, k) || e != api.OK || !bound.Less(f, g) || !bound.Less(g, f) {
		t.Error(q, e)
	}
}

func TestP25_2Check(t *testing.T) {
	w, s := chapter(t)
	q := quest(0, api.Get, m)
	cert, _ := Make(w, q, s...)
	asks := func(cert string, want api.Errno) {
		t.Helper()
		got, e := Check(w, cert, s...)
		if e != want || (e == api.OK) != (got == q) || e != api.OK && got != (api.Question{}) {
			t.Error(got, e, "wanted", want)
		}
	}
	asks(cert, api.OK)
	asks(cert[:10]+"\x02"+cert[11:], api.ErrSaid)
	empty, _ := bound.Empty(w, s...)
	none, _ := Write(q, empty)
	asks(none, api.ErrWanting)
	if x, rule, wants, e := Wanting(w, none, s...); x != (api.Fact{By: sub(0), What: is(c)}) || rule != 0 || !wants || e != api.OK {
		t.Error(x, rule, wants, e)
	}
	now, _ := bound.Of(w, s...)
	only, _ := Write(q, now)
	asks(only, api.ErrWanting)
	miss, by, _ := now.Kept()
	if x, rule, is, e := Wanting(w, only, s...); x != miss || rule != by || !is || e != api.OK {
		t.Error(x, rule, is, e)
	}
	if x, rule, is, e := Wanting(w, cert, s...); x != (api.Fact{}) || rule != 0 || is || e != api.OK {
		t.Error(x, rule, is, e)
	}
	for _, bad := range []string{"", "NEV", "NEW" + cert[3:], cert + "\x00", cert[:len(cert)-1], cert[:4] + "\x00\x07" + cert[6:], cert[:6] + "\x03" + cert[7:], cert[:6] + "\x40" + cert[7:], cert[:10] + "\x63" + cert[11:], cert[:14] + "\x00" + cert[15:], cert[:11] + "\xff\xff\xff\xff" + cert[15:],
		cert[:15] + "\x02" + cert[16:], cert[:16] + "\x02" + cert[17:], cert[:16] + "\x01\x00\x00\x00\x00" + cert[21:], cert[:20] + "\x05" + cert[21:], cert[:21] + "\x00" + cert[22:], cert[:21] + "\x05" + cert[22:], cert[:25] + "\x07" + cert[26:], cert[:30] + "\x01" + cert[31:], cert[:31] + "\xff" + cert[32:]} {
		asks(bad, api.ErrCert)
		if x, rule, is, e := Wanting(w, bad, s...); x != (api.Fact{}) || rule != 0 || is || e != api.ErrCert {
			t.Error(x, rule, is, e)
		}
		if q, f, e := Read(w, bad, s...); q != (api.Question{}) || f != nil || e != api.ErrCert {
			t.Error(q, e)
		}
	}
	// Rows turned round, and a row twice, are another form of the same facts.
	w, one, want := small(t)
	raw, _ := hex.DecodeString(want)
	first, second := raw[15:32], raw[32:]
	turned := slices.Concat(raw[:15], second, first)
	twice := slices.Concat(raw[:11], []byte{0, 0, 0, 3}, first, first, second)
	for _, x := range [][]byte{turned, twice} {
		if _, e := Check(w, string(x), one); e != api.ErrCert {
			t.Error(e)
		}
	}
	if _, e := Check(w, string(raw), one); e != api.ErrWanting {
		t.Error(e)
	}
}

// random makes a world, and subjects that do this and that.
func random(t *testing.T, r *rand.Rand) (*world.World, []api.Subject) {
	t.Helper()
	w, _ := world.New(0)
	some := func() api.Ref { return api.Ref(1 + r.Intn(w.Len())) }
	w.Make(api.What{Kind: api.Log})
	for w.Len() < 9 {
		x := api.What{Kind: []api.Kind{api.Cell, api.Log, api.Queue, api.Sealer, api.Mint, api.Clerk, api.Promise}[r.Intn(7)], Home: api.Side(r.Intn(2))}
		switch x.Kind {
		case api.Cell:
			x.Value = list(ref(some()))
		case api.Sealer, api.Mint, api.Promise:
			p, _ := w.Make(x)
			x.Kind, x.Of = map[api.Kind]api.Kind{api.Sealer: api.Opener, api.Mint: api.Purse, api.Promise: api.Keeper}[x.Kind], p
		case api.Clerk:
			x.Code, _, _ = lang.Read([]string{"x = get a ; reply x", "x = ask a it", "x = make cell it ; reply 1", "fail"}[r.Intn(4)])
			x.Names = []api.Name{{Name: "a", Value: ref(some())}}
		}
		w.Make(x)
	}
	for range 3 {
		w.Facet(some(), []api.Able{api.Get, api.Put, api.Give, 0}[r.Intn(4)])
	}
	if r.Intn(3) == 0 {
		w.CutEdge(1)
	}
	do := []string{"x = get a", "x = put a b", "x = give a b", "y = take a 1", "z = part x 0", "x = ask a b", "x = ask b x", "s o = make seal", "x = ask s b", "a = x", "b = z", "l = make log", "k = make clerk [ a b ] { x = get a ; y = put b it ; reply [ x it ] }", "x = ask k b", "g h = make gate a", "f = make facet b get"}
	var l []api.Subject
	for range 3 {
		var c []string
		for range 12 {
			c = append(c, do[r.Intn(len(do))])
		}
		l = append(l, who(t, w, api.Side(r.Intn(2)), strings.Join(c, " ; "), "a", some(), "b", some()))
	}
	return w, l
}

// can says whether a subject can that, as it stands.
func can(w *world.World, s api.Subject, a api.Able, x api.Ref) bool {
	for _, n := range s.Names {
		for _, r := range value.Refs(n.Value) {
			if w.Able(r)&a != 0 && w.Base(r) == x && w.Free(s.Side, r) == api.OK {
				return true
			}
		}
	}
	return false
}

func TestP25_4Never(t *testing.T) {
	r := rand.New(rand.NewSource(1))
	checked := 0
	for range 40 {
		w, l := random(t, r)
		_, others := random(t, r)
		for i := range l {
			l[i].Code = others[i].Code // not that which it is made with
		}
		silent := slices.Clone(l)
		for i := range silent {
			silent[i].Code = nil
		}
		p, e := pick.New(w, l...)
		if e != api.OK {
			t.Fatal(e)
		}
		p.Rounds(r.Intn(40))
		now, then := p.World(), p.Subjects()
		for range 6 {
			q := quest(r.Intn(3), 1<<r.Intn(5), api.Ref(1+r.Intn(w.Len())))
			cert, e := Make(w, q, silent...)
			if e == api.ErrMay {
				continue
			}
			if got, e := Check(w, cert, silent...); got != q || e != api.OK {
				t.Fatal(got, e)
			}
			checked++
			x := q.Thing
			if w.Kind(x) == api.Facet {
				y, _ := w.What(x)
				x = y.Of
			}
			if can(now, then[q.By], q.Able, x) {
				t.Error("it came about", q)
			}
		}
	}
	if checked < 30 {
		t.Error("too little", checked)
	}
}

func TestP25_5Holds(t *testing.T) {
	r := rand.New(rand.NewSource(2))
	for range 12 {
		w, l := random(t, r)
		all, _ := bound.Bound(w, l...)
		facts := slices.Collect(all.Each())
		for range 6 {
			q := quest(r.Intn(3), 1<<r.Intn(5), api.Ref(1+r.Intn(w.Len())))
			never, _ := Ask(w, q, l...)
			cert, e := Make(w, q, l...)
			if never != (e == api.OK) {
				t.Error(never, e)
			}
			whole, _ := Write(q, all)
			if _, e := Check(w, whole, l...); never != (e == api.OK) || !never && e != api.ErrSaid || never && whole != cert {
				t.Error(never, e)
			}
			// More facts, kept: a certificate, too, if it does not say so.
			more := all.Copy()
			more.Add(facts[r.Intn(len(facts))])
			more.Add(api.Fact{By: sub(2), What: all.Spots()[r.Intn(len(all.Spots()))]})
			more.Close()
			wide, _ := Write(q, more)
			said, _ := more.Says(sub(q.By), q.Able, q.Thing)
			if _, e := Check(w, wide, l...); said != (e == api.ErrSaid) || !said && e != api.OK {
				t.Error(said, e)
			}
			// A fact less: none.
			drop := facts[r.Intn(len(facts))]
			less, _ := bound.Empty(w, l...)
			for _, x := range facts {
				if x != drop && !(drop.Can == 0 && x.By == drop.By && x.In == drop.In && x.What == drop.What) {
					less.Add(x)
				}
			}
			few, _ := Write(q, less)
			if _, e := Check(w, few, l...); e != api.ErrWanting {
				t.Error("a fact less", e)
			}
		}
	}
}

func TestP25_6OneForm(t *testing.T) {
	r := rand.New(rand.NewSource(3))
	for range 20 {
		w, l := random(t, r)
		all, _ := bound.Bound(w, l...)
		q := quest(r.Intn(3), 1<<r.Intn(6), api.Ref(1+r.Intn(w.Len())))
		s, e := Write(q, all)
		got, f, g := Read(w, s, l...)
		if e != api.OK || g != api.OK || got != q || !bound.Less(f, all) || !bound.Less(all, f) {
			t.Error(e, g, got)
		}
		for range 30 {
			x := []byte(s)
			x[r.Intn(len(x))] ^= byte(1 << r.Intn(8))
			if q, f, e := Read(w, string(x), l...); e == api.OK {
				if again, _ := Write(q, f); again != string(x) {
					t.Error("another form")
				}
			} else if e != api.ErrCert {
				t.Error(e)
			}
		}
	}
}

func TestP25_7AndIfNot(t *testing.T) {
	w, _ := world.New()
	for _, x := range []api.What{{Kind: api.Cell}, {Kind: api.Log}, {Kind: api.Log}} {
		w.Make(x)
	}
	put, _ := w.Facet(c, api.Put)
	get, _ := w.Facet(c, api.Get)
	s := []api.Subject{who(t, w, 0, "", "c", put, "l", l), who(t, w, 0, "", "c", get), who(t, w, 0, "", "m", m)}
	for by := range 3 {
		for r := c; r <= m; r++ {
			for _, a := range []api.Able{api.Get, api.Put, api.Give} {
				never, _ := Ask(w, quest(by, a, r), s...)
				_, e := plan.Make(w, api.Want{Who: by, Can: a, What: r}, s...)
				if never == (e == api.OK) {
					t.Error(by, r, a, never, e)
				}
			}
		}
	}
}

func TestLong(t *testing.T) {
	w, _ := world.New(0)
	v := list()
	for i := range 464 {
		r, _ := w.Make(api.What{Kind: api.Cell, Home: api.Side(i % 2)})
		v.L = append(v.L, ref(r))
	}
	var s []api.Subject
	for range 32 {
		x, e := run.New(w, 0, nil, []api.Name{{Name: "a", Value: v}})
		if e != api.OK {
			t.Fatal(e)
		}
		s = append(s, x)
	}
	all, _ := bound.Bound(w, s...)
	if cert, e := Write(quest(0, api.Take, 1), all); cert != "" || e != api.ErrLong {
		t.Error(len(cert), e)
	}
	if rows, n, e := Size(quest(0, api.Take, 1), all); rows != 0 || n != 0 || e != api.ErrLong {
		t.Error(rows, n, e)
	}
}
