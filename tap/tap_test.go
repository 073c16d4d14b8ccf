package tap

import (
	"math/rand"
	"slices"
	"testing"

	"postern/api"
	"postern/world"
)

func refs(l ...api.Ref) []api.Ref { return l }

func lay(t *testing.T) *world.World {
	t.Helper()
	w, _ := world.New(0)
	if r, e := w.Make(api.What{Kind: api.Cell}); r != 1 || e != api.OK {
		t.Fatal(e)
	}
	return w
}

// chapter makes the things of the chapter's examples: the taps 3, 5, 6 with the tallies 2, 4, 2.
func chapter(t *testing.T) *world.World {
	t.Helper()
	w := lay(t)
	Make(w, 0, 1)
	Make(w, 0, 3)
	if r, e := With(w, 0, 5, 2); r != 6 || e != api.OK {
		t.Fatal(r, e)
	}
	return w
}

func has(t *testing.T, w *world.World, tally api.Ref, n int64) {
	t.Helper()
	if x, e := w.What(tally); x.N != n || e != api.OK {
		t.Error(tally, x.N, e)
	}
}

func TestNilWorlds(t *testing.T) {
	for _, w := range []*world.World{nil, {}} {
		_, _, e1 := Make(w, 9, 0)
		_, e2 := With(w, 9, 0, 0)
		_, e3 := Taps(w, 0)
		_, e4 := Count(w, 0)
		_, e5 := Tally(w, 0)
		_, e6 := Of(w, 0)
		for i, e := range []api.Errno{e1, e2, e3, e4, e5, e6, Pass(w, 0)} {
			if e != api.ErrNil {
				t.Error(i, e)
			}
		}
	}
}

func TestP13_1Make(t *testing.T) {
	w := lay(t)
	p, n, e := Make(w, 1, 1)
	if p != 3 || n != 2 || e != api.OK {
		t.Fatal(p, n, e)
	}
	x, _ := w.What(p)
	y, _ := w.What(n)
	if x.Kind != api.Tap || x.Of != 1 || x.By != n || x.Home != 1 || y.Kind != api.Tally || y.N != 0 || y.Home != 1 {
		t.Error(x, y)
	}
	before := w.Copy()
	for _, c := range []struct {
		side api.Side
		r    api.Ref
		e    api.Errno
	}{{9, 1, api.ErrArg}, {2, 99, api.ErrArg}, {-1, 1, api.ErrArg}, {0, 99, api.ErrRef}, {0, 0, api.ErrRef}} {
		if p, n, e := Make(w, c.side, c.r); p != 0 || n != 0 || e != c.e {
			t.Error(c, p, n, e)
		}
		if p, e := With(w, c.side, c.r, n); p != 0 || e != c.e {
			t.Error(c, p, e)
		}
	}
	for _, c := range []struct {
		side  api.Side
		tally api.Ref
		e     api.Errno
	}{{0, n, api.ErrTap}, {1, 1, api.ErrTap}, {0, 1, api.ErrTap}, {1, p, api.ErrTap}, {1, 99, api.ErrRef}, {1, 0, api.ErrRef}} {
		if p, e := With(w, c.side, 1, c.tally); p != 0 || e != c.e {
			t.Error(c, p, e)
		}
	}
	if !world.Same(w, before) {
		t.Error("a refused call changed something")
	}
	for w.Made(1) < api.MaxThings-1 {
		w.Make(api.What{Kind: api.Log, Home: 1})
	}
	before = w.Copy()
	if p, n, e := Make(w, 1, 1); p != 0 || n != 0 || e != api.ErrLimit || !world.Same(w, before) {
		t.Error(p, n, e)
	}
	if _, e := With(w, 1, 1, n); e != api.OK {
		t.Error(e)
	}
	if p, e := With(w, 1, 1, n); p != 0 || e != api.ErrLimit {
		t.Error(p, e)
	}
	if _, e := With(w, 1, 1, 1); e != api.ErrTap {
		t.Error(e)
	}
}

func TestP13_2Pass(t *testing.T) {
	w := chapter(t)
	for r, l := range map[api.Ref][]api.Ref{6: refs(6, 5, 3), 5: refs(5, 3), 1: nil, 2: nil} {
		if got, e := Taps(w, r); !slices.Equal(got, l) || e != api.OK {
			t.Error(r, got, e)
		}
	}
	if l, e := Taps(w, 99); l != nil || e != api.ErrRef {
		t.Error(l, e)
	}
	if e := Pass(w, 99); e != api.ErrRef {
		t.Error(e)
	}
	for _, r := range refs(3, 1, 5) {
		if e := Pass(w, r); e != api.OK {
			t.Error(r, e)
		}
	}
	has(t, w, 2, 2)
	has(t, w, 4, 1)
	Pass(w, 6)
	has(t, w, 2, 4)
	has(t, w, 4, 2)
	x, _ := w.What(2)
	x.N = api.MaxMoney - 1
	w.Lay(2, x)
	if e := Pass(w, 6); e != api.OK {
		t.Error(e)
	}
	has(t, w, 2, api.MaxMoney)
	if e := Pass(w, 3); e != api.OK {
		t.Error(e)
	}
	has(t, w, 2, api.MaxMoney)
	has(t, w, 4, 3)
}

func TestP13_3Told(t *testing.T) {
	w := chapter(t)
	Pass(w, 5)
	for r, n := range map[api.Ref]int64{3: 1, 5: 1, 6: 1} {
		if got, e := Count(w, r); got != n || e != api.OK {
			t.Error(r, got, e)
		}
	}
	for r, n := range map[api.Ref]api.Ref{3: 2, 5: 4, 6: 2} {
		if got, e := Tally(w, r); got != n || e != api.OK {
			t.Error(r, got, e)
		}
	}
	for r, we := range map[api.Ref]api.Errno{1: api.ErrTap, 2: api.ErrTap, 99: api.ErrRef} {
		n, e1 := Count(w, r)
		x, e2 := Tally(w, r)
		if n != 0 || x != 0 || e1 != we || e2 != we {
			t.Error(r, n, x, e1, e2)
		}
	}
	for r, l := range map[api.Ref][]api.Ref{2: refs(3, 6), 4: refs(5)} {
		if got, e := Of(w, r); !slices.Equal(got, l) || e != api.OK {
			t.Error(r, got, e)
		}
	}
	for r, we := range map[api.Ref]api.Errno{1: api.ErrTap, 3: api.ErrTap, 99: api.ErrRef} {
		if l, e := Of(w, r); l != nil || e != we {
			t.Error(r, l, e)
		}
	}
	free, _ := w.Make(api.What{Kind: api.Tally})
	if l, e := Of(w, free); len(l) != 0 || e != api.OK {
		t.Error(l, e)
	}
}

// random makes a world with taps, facets and gates before one another.
func random(r *rand.Rand) *world.World {
	w, _ := world.New()
	w.Make(api.What{Kind: api.Cell})
	w.Make(api.What{Kind: api.Tally})
	for range 20 {
		target := api.Ref(1 + r.Intn(w.Len()))
		switch r.Intn(5) {
		case 0:
			w.Facet(target, api.Get)
		case 1:
			With(w, 0, target, 2)
		case 2:
			sw, _ := w.Make(api.What{Kind: api.Switch})
			w.Make(api.What{Kind: api.Gate, Of: target, By: sw})
		default:
			Make(w, 0, target)
		}
	}
	return w
}

func TestP13_4Counts(t *testing.T) {
	r := rand.New(rand.NewSource(1))
	for range 100 {
		w := random(r)
		x := api.Ref(1 + r.Intn(w.Len()))
		taps, _ := Taps(w, x)
		c := w.Copy()
		const times = 3
		for range times {
			Pass(w, x)
		}
		share := map[api.Ref]int64{}
		for _, p := range taps {
			n, _ := Tally(w, p)
			share[n]++
		}
		for q, kind := range c.Things() {
			was, _ := c.What(q)
			is, _ := w.What(q)
			if kind == api.Tally {
				was.N += times * share[q]
			}
			if was.N != is.N || was.Kind != is.Kind {
				t.Error(q, was, is)
			}
		}
		for _, p := range taps {
			y, _ := w.What(p)
			behind, _ := Taps(w, y.Of)
			own, _ := Taps(w, p)
			if w.Able(p) != w.Able(y.Of) || w.Base(p) != w.Base(y.Of) || !slices.Equal(own, append(refs(p), behind...)) {
				t.Error(p)
			}
		}
	}
}

func TestP13_5Order(t *testing.T) {
	r := rand.New(rand.NewSource(2))
	for range 50 {
		w := random(r)
		x, _ := w.What(2)
		x.N = api.MaxMoney - 3
		w.Lay(2, x)
		c := w.Copy()
		l := r.Perm(w.Len() + 2)
		for _, i := range l {
			before := w.Copy()
			if e := Pass(w, api.Ref(i)); e != api.OK && !world.Same(w, before) {
				t.Error(i, e)
			}
		}
		for i := len(l) - 1; i >= 0; i-- {
			Pass(c, api.Ref(l[i]))
		}
		if !world.Same(w, c) {
			t.Error("another order, other tallies")
		}
	}
}
