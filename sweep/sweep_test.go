package sweep

import (
	"math/rand"
	"slices"
	"strings"
	"testing"

	"postern/api"
	"postern/lang"
	"postern/pick"
	"postern/purse"
	"postern/run"
	"postern/world"
)

func ref(r api.Ref) api.Value     { return api.Value{Kind: api.Reference, R: r} }
func refs(l ...api.Ref) []api.Ref { return l }

func who(t *testing.T, w *world.World, side api.Side, s string, l ...any) api.Subject {
	t.Helper()
	c, at, e := lang.Read(s)
	if e != api.OK {
		t.Fatal(s, at, e)
	}
	var names []api.Name
	for i := 0; i < len(l); i += 2 {
		names = append(names, api.Name{Name: l[i].(string), Value: ref(l[i+1].(api.Ref))})
	}
	x, e := run.New(w, side, c, names)
	if e != api.OK {
		t.Fatal(s, e)
	}
	return x
}

// chapter is the world of layer 22's examples, a mint 9 and a purse 10; A and B.
func chapter(t *testing.T) (w *world.World, a, b api.Subject) {
	t.Helper()
	w, _ = world.New()
	for _, x := range []api.What{{Kind: api.Cell}, {Kind: api.Log, Values: []api.Value{ref(1)}}, {Kind: api.Sealer}, {Kind: api.Opener, Of: 3}, {Kind: api.Box, Of: 3, Value: ref(1)}} {
		w.Make(x)
	}
	w.Lay(1, api.What{Kind: api.Cell, Value: ref(2)})
	w.Facet(2, api.Get)
	w.Make(api.What{Kind: api.Switch})
	w.Make(api.What{Kind: api.Gate, Of: 6, By: 7})
	w.Make(api.What{Kind: api.Mint, N: 4})
	if r, e := w.Make(api.What{Kind: api.Purse, Of: 9, N: 4}); r != 10 || e != api.OK {
		t.Fatal(r, e)
	}
	return w, who(t, w, 0, "", "c", api.Ref(1)), who(t, w, 0, "", "b", api.Ref(5), "g", api.Ref(8))
}

func want(t *testing.T, got []api.Ref, e api.Errno, wanted []api.Ref, we api.Errno) {
	t.Helper()
	if !slices.Equal(got, wanted) || e != we {
		t.Error("got", got, e, "wanted", wanted, we)
	}
}

func TestErrors(t *testing.T) {
	w, a, _ := chapter(t)
	bad := a
	bad.Side = 3
	before := w.Copy()
	for _, c := range []struct {
		w *world.World
		e api.Errno
	}{{nil, api.ErrNil}, {&world.World{}, api.ErrNil}, {w, api.ErrSubject}} {
		l1, e1 := Live(c.w, a, bad)
		l2, e2 := Rest(c.w, a, bad)
		l3, e3 := Sweep(c.w, a, bad)
		m, n, e4 := Count(c.w, a, bad)
		if l1 != nil || l2 != nil || l3 != nil || m != 0 || n != 0 || e1 != c.e || e2 != c.e || e3 != c.e || e4 != c.e {
			t.Error(e1, e2, e3, e4)
		}
	}
	if !world.Same(w, before) {
		t.Error("something went")
	}
}

func TestP28_1Live(t *testing.T) {
	w, a, b := chapter(t)
	l, e := Live(w, a)
	want(t, l, e, refs(1, 2, 6), 0)
	l, e = Rest(w, a)
	want(t, l, e, refs(3, 4, 5, 7, 8, 9, 10), 0)
	l, e = Live(w, a, b)
	want(t, l, e, refs(1, 2, 3, 5, 6, 7, 8), 0)
	l, e = Live(w)
	want(t, l, e, nil, 0)
	l, e = Live(w, who(t, w, 0, "", "o", api.Ref(4), "p", api.Ref(10)))
	want(t, l, e, refs(3, 4, 9, 10), 0)
	l, e = Live(w, who(t, w, 0, "", "s", api.Ref(7)))
	want(t, l, e, refs(7), 0)
	if m, n, e := Count(w, a); m != 3 || n != 7 || e != api.OK {
		t.Error(m, n, e)
	}
	p, _ := w.Make(api.What{Kind: api.Promise})
	k, _ := w.Make(api.What{Kind: api.Keeper, Of: p})
	f, _ := w.Facet(3, 0)
	g, _ := w.Facet(k, 0)
	l, e = Live(w, who(t, w, 0, "", "p", p))
	want(t, l, e, refs(p), 0)
	l, e = Live(w, who(t, w, 0, "", "k", k))
	want(t, l, e, refs(p, k, g), 0)
	l, e = Live(w, who(t, w, 0, "", "b", api.Ref(5)))
	want(t, l, e, refs(1, 2, 3, 5, 6, f), 0)
}

func TestP28_2Sweep(t *testing.T) {
	w, a, b := chapter(t)
	l, e := Sweep(w, a, b)
	want(t, l, e, refs(4, 9, 10), 0)
	l, e = Sweep(w, a, b)
	want(t, l, e, nil, 0)
	if w.Len() != 7 || w.Is(4) || w.Tell().Last != 10 || w.Made(0) != 9 {
		t.Error(w.Len())
	}
	l, e = Sweep(w)
	want(t, l, e, refs(1, 2, 3, 5, 6, 7, 8), 0)
	w, _, _ = chapter(t)
	l, e = Sweep(w, who(t, w, 0, "", "s", api.Ref(7), "m", api.Ref(9)))
	want(t, l, e, refs(1, 2, 3, 4, 5, 6, 8, 10), 0)
	x, _ := w.What(7)
	y, _ := w.What(9)
	if x.Of != 0 || y.Lost != 4 || y.N != 4 {
		t.Error(x, y)
	}
}

// random makes a world of this and that, and subjects.
func random(t *testing.T, r *rand.Rand) (*world.World, []api.Subject) {
	t.Helper()
	w, _ := world.New(0)
	some := func() api.Ref { return api.Ref(1 + r.Intn(w.Len())) }
	w.Make(api.What{Kind: api.Cell})
	for range 12 {
		x := api.What{Kind: []api.Kind{api.Cell, api.Log, api.Queue, api.Promise, api.Mint, api.Sealer, api.Clerk, api.Gate, api.Tap}[r.Intn(9)], Home: api.Side(r.Intn(2))}
		switch x.Kind {
		case api.Log, api.Queue:
			x.Values = []api.Value{ref(some())}
		case api.Promise, api.Mint, api.Sealer:
			p, _ := w.Make(x)
			x.Kind, x.Of = map[api.Kind]api.Kind{api.Mint: api.Purse, api.Promise: api.Keeper, api.Sealer: api.Opener}[x.Kind], p
		case api.Clerk:
			x.Code, _, _ = lang.Read("x = get a ; b = it ; reply [ x it ]")
			x.Names = []api.Name{{Name: "a", Value: ref(some())}}
		case api.Gate:
			x.Of = some()
			x.By, _ = w.Make(api.What{Kind: api.Switch, Home: x.Home})
		case api.Tap:
			x.Of = some()
			x.By, _ = w.Make(api.What{Kind: api.Tally, Home: x.Home})
		}
		w.Make(x)
		if r.Intn(3) == 0 {
			w.Facet(some(), []api.Able{0, api.Get, api.Put, api.Ask}[r.Intn(4)])
		}
	}
	do := []string{"x = get a", "x = put a b", "x = give a b", "y = take a 1", "z = part x 0", "x = ask a b", "x = ask b 5", "s o = make seal", "x = ask s b", "a = x", "b = z", "a = 1", "l = make log", "x = give l b", "g h = make gate a", "x = cut h", "v = await a", "x = give b a", "reply [ a b x ]", "t u = make tap a", "f = make facet a get", "f = make facet b _", "m = make mint", "b = ask m 5", "a = take b 2", "if same a b { x = 1 } else { a = b }", "k = make clerk [ a b ] { x = get a ; reply [ x it ] }", "x = ask k 1"}
	var l []api.Subject
	for range 3 {
		var c []string
		for range 20 {
			c = append(c, do[r.Intn(len(do))])
		}
		l = append(l, who(t, w, api.Side(r.Intn(2)), strings.Join(c, " ; "), "a", some(), "b", some()))
	}
	return w, l
}

func TestP28_3NobodyCanTell(t *testing.T) {
	r := rand.New(rand.NewSource(1))
	swept := 0
	for range 150 {
		w, l := random(t, r)
		p, e := pick.New(w, l...)
		if e != api.OK {
			t.Fatal(e)
		}
		w, now := w.Copy(), slices.Clone(l)
		lines := make([][]api.Line, 3)
		for range 60 {
			n := r.Intn(3)
			p.Turn(api.Turn{Who: n})
			next, line, _, went, e := run.Step(w, now[n])
			if e != api.OK {
				t.Fatal(e)
			}
			if went {
				now[n] = next
				lines[n] = append(lines[n], line)
			}
			if r.Intn(3) == 0 {
				gone, e := Sweep(w, now...)
				swept += len(gone)
				if e != api.OK {
					t.Fatal(e)
				}
			}
		}
		for n := range 3 {
			told, _ := p.Lines(n)
			texts, e := run.Texts(l[n], lines[n])
			if e != api.OK || !slices.Equal(told, texts) || len(p.Subjects()[n].Seen) != len(now[n].Seen) {
				t.Error(told, texts, e)
			}
		}
	}
	if swept < 500 {
		t.Error("too little", swept)
	}
}

func TestP28_4Twice(t *testing.T) {
	r := rand.New(rand.NewSource(2))
	for range 100 {
		w, l := random(t, r)
		p, _ := pick.New(w, l...)
		p.Rounds(r.Intn(60))
		w, l = p.World(), p.Subjects()
		live, _ := Live(w, l...)
		rest, _ := Rest(w, l...)
		m, n, _ := Count(w, l...)
		both := append(slices.Clone(live), rest...)
		slices.Sort(both)
		var all []api.Ref
		for q := range w.Things() {
			all = append(all, q)
		}
		if !slices.Equal(both, all) || m != len(live) || n != len(rest) || !slices.IsSorted(live) || !slices.IsSorted(rest) {
			t.Error(live, rest)
		}
		sound := purse.Check(w)
		gone, e := Sweep(w, l...)
		if e != api.OK || !slices.Equal(gone, rest) || w.Len() != len(live) {
			t.Error(gone, rest, e)
		}
		if purse.Check(w) != sound {
			t.Error("money went")
		}
		for _, s := range l {
			if e := run.Check(w, s); e != api.OK {
				t.Error(e)
			}
		}
		if again, _ := Sweep(w, l...); len(again) != 0 {
			t.Error(again)
		}
		if m, n, _ := Count(w); m != 0 || n != w.Len() {
			t.Error(m, n)
		}
	}
}
