package plain

import (
	"math"
	"math/rand"
	"strings"
	"testing"

	"postern/api"
	"postern/value"
	"postern/world"
)

func num(n int64) api.Value         { return api.Value{Kind: api.Number, N: n} }
func text(s string) api.Value       { return api.Value{Kind: api.Text, S: s} }
func ref(r api.Ref) api.Value       { return api.Value{Kind: api.Reference, R: r} }
func list(l ...api.Value) api.Value { return api.Value{Kind: api.List, L: l} }

var none = api.Value{}

// things are one of each plain kind, on a world with one side.
type things struct {
	w                *world.World
	c, l, t, q, p, k api.Ref
}

func lay(t *testing.T) things {
	t.Helper()
	w, _ := world.New()
	c, e1 := Cell(w, 0, num(1))
	l, e2 := Log(w, 0)
	n, e3 := Tally(w, 0)
	q, e4 := Queue(w, 0)
	p, k, e5 := Promise(w, 0)
	for i, e := range []api.Errno{e1, e2, e3, e4, e5} {
		if e != api.OK {
			t.Fatal(i, e)
		}
	}
	return things{w, c, l, n, q, p, k}
}

// want holds an answer against what is wanted.
func want(t *testing.T, v api.Value, e api.Errno, wv api.Value, we api.Errno) {
	t.Helper()
	if e != we || !value.Same(v, wv) {
		t.Error("got", v, e, "wanted", wv, we)
	}
}

func wantE(t *testing.T, e, we api.Errno) {
	t.Helper()
	if e != we {
		t.Error("got", e, "wanted", we)
	}
}

func TestP8_1Make(t *testing.T) {
	w, _ := world.New(0)
	for _, z := range []*world.World{nil, {}} {
		_, e1 := Cell(z, 5, ref(0))
		_, e2 := Log(z, 0)
		_, e3 := Tally(z, 0)
		_, e4 := Queue(z, 0)
		_, _, e5 := Promise(z, 0)
		_, e6 := Get(z, 0)
		_, e7 := Take(z, 0, 0)
		_, e8 := Do(z, 0, 3, none)
		_, e9 := Len(z, 0)
		for _, e := range []api.Errno{e1, e2, e3, e4, e5, e6, e7, e8, e9, Put(z, 0, ref(0)), Give(z, 0, ref(0))} {
			wantE(t, e, api.ErrNil)
		}
	}
	for _, home := range []api.Side{2, -1, 1 << 40} {
		_, e1 := Cell(w, home, ref(9))
		_, e2 := Log(w, home)
		_, e3 := Tally(w, home)
		_, e4 := Queue(w, home)
		_, _, e5 := Promise(w, home)
		for _, e := range []api.Errno{e1, e2, e3, e4, e5} {
			wantE(t, e, api.ErrArg)
		}
	}
	_, e := Cell(w, 0, ref(0))
	wantE(t, e, api.ErrArg)
	_, e = Cell(w, 0, list(ref(9)))
	wantE(t, e, api.ErrRef)
	if w.Len() != 0 {
		t.Error(w.Len())
	}
	p, k, e := Promise(w, 1)
	if p != 1 || k != 2 || e != api.OK || w.Kind(p) != api.Promise || w.Kind(k) != api.Keeper {
		t.Error(p, k, e)
	}
	c, _ := Cell(w, 1, list(ref(p)))
	x, _ := w.What(c)
	if x.Kind != api.Cell || x.Home != 1 || !value.Same(x.Value, list(ref(p))) {
		t.Error(x)
	}
	for w.Made(1) < api.MaxThings-1 {
		Log(w, 1)
	}
	before := w.Copy()
	p, k, e = Promise(w, 1)
	if p != 0 || k != 0 || e != api.ErrLimit || !world.Same(w, before) {
		t.Error(p, k, e)
	}
	if _, e := Queue(w, 1); e != api.OK {
		t.Error(e)
	}
	_, e1 := Log(w, 1)
	_, e2 := Tally(w, 1)
	_, e3 := Queue(w, 1)
	_, e4 := Cell(w, 1, none)
	_, e5 := Cell(w, 1, ref(9999))
	if e1 != api.ErrLimit || e2 != api.ErrLimit || e3 != api.ErrLimit || e4 != api.ErrLimit || e5 != api.ErrRef {
		t.Error(e1, e2, e3, e4, e5)
	}
}

func TestP8_2Abilities(t *testing.T) {
	x := lay(t)
	v, e := Get(x.w, x.c)
	want(t, v, e, num(1), 0)
	wantE(t, Put(x.w, x.c, text("x")), 0)
	v, e = Get(x.w, x.c)
	want(t, v, e, text("x"), 0)
	wantE(t, Give(x.w, x.l, num(1)), 0)
	wantE(t, Give(x.w, x.l, list(num(2))), 0)
	v, e = Get(x.w, x.l)
	want(t, v, e, list(num(1), list(num(2))), 0)
	wantE(t, Give(x.w, x.t, num(3)), 0)
	wantE(t, Give(x.w, x.t, num(-1)), api.ErrArg)
	wantE(t, Give(x.w, x.t, text("x")), api.ErrArg)
	wantE(t, Give(x.w, x.t, num(0)), 0)
	v, e = Get(x.w, x.t)
	want(t, v, e, num(3), 0)
	wantE(t, Give(x.w, x.t, num(math.MaxInt64)), api.ErrLimit)
	wantE(t, Give(x.w, x.t, num(api.MaxMoney-2)), api.ErrLimit)
	wantE(t, Give(x.w, x.t, num(api.MaxMoney-3)), 0)
	wantE(t, Give(x.w, x.t, num(1)), api.ErrLimit)
	wantE(t, Give(x.w, x.q, num(1)), 0)
	wantE(t, Give(x.w, x.q, num(2)), 0)
	v, e = Take(x.w, x.q, 1)
	want(t, v, e, list(num(1)), 0)
	v, e = Take(x.w, x.q, 2)
	want(t, v, e, none, api.ErrShort)
	v, e = Take(x.w, x.q, -1)
	want(t, v, e, none, api.ErrArg)
	v, e = Take(x.w, x.q, math.MinInt64)
	want(t, v, e, none, api.ErrArg)
	v, e = Take(x.w, x.q, 0)
	want(t, v, e, list(), 0)
	v, e = Get(x.w, x.p)
	want(t, v, e, none, api.ErrOpen)
	wantE(t, Give(x.w, x.k, none), 0)
	v, e = Get(x.w, x.p)
	want(t, v, e, none, 0)
	wantE(t, Give(x.w, x.k, num(2)), api.ErrDone)
	wantE(t, Put(x.w, x.l, num(1)), api.ErrUnable)
	_, e = Get(x.w, x.k)
	wantE(t, e, api.ErrUnable)
	_, e = Take(x.w, x.c, 1)
	wantE(t, e, api.ErrUnable)
	_, e = Take(x.w, x.c, -1)
	wantE(t, e, api.ErrUnable)
	wantE(t, Give(x.w, x.c, num(1)), api.ErrUnable)
	wantE(t, Give(x.w, x.p, num(1)), api.ErrUnable)
	_, e = Get(x.w, x.q)
	wantE(t, e, api.ErrUnable)
}

func TestP8_2Limits(t *testing.T) {
	x := lay(t)
	for range 511 {
		wantE(t, Give(x.w, x.l, num(1)), 0)
		wantE(t, Give(x.w, x.q, num(1)), 0)
	}
	before := x.w.Copy()
	wantE(t, Give(x.w, x.l, num(1)), api.ErrLimit)
	wantE(t, Give(x.w, x.q, num(1)), api.ErrLimit)
	if !world.Same(before, x.w) {
		t.Error("a refused call changed something")
	}
	v, e := Take(x.w, x.q, 511)
	if e != api.OK || len(v.L) != 511 {
		t.Error(e)
	}
	l, _ := Log(x.w, 0)
	deep := list()
	for range 15 {
		deep = list(deep)
	}
	wantE(t, Give(x.w, l, deep), api.ErrLimit)
	wantE(t, Give(x.w, l, deep.L[0]), 0)
}

func TestP8_3Do(t *testing.T) {
	x := lay(t)
	mint, _ := x.w.Make(api.What{Kind: api.Mint})
	facet, _ := x.w.Facet(x.c, api.Get)
	for i, c := range []struct {
		r    api.Ref
		able api.Able
		v    api.Value
		want api.Value
		e    api.Errno
	}{
		{99, 3, ref(0), none, api.ErrArg}, {99, 64, none, none, api.ErrArg}, {99, 0, none, none, api.ErrArg}, {x.c, 65, none, none, api.ErrArg}, {x.c, api.Put, ref(0), none, api.ErrArg},
		{x.c, api.Get | api.Put, none, none, api.ErrArg}, {99, api.Get, none, none, api.ErrRef}, {0, api.Get, none, none, api.ErrRef}, {x.c, api.Put, ref(99), none, api.ErrRef}, {mint, api.Get, ref(99), none, api.ErrRef},
		{mint, api.Ask, num(1), none, api.ErrPlain}, {mint, api.Get, num(1), none, api.ErrPlain}, {facet, api.Get, none, none, api.ErrPlain},
		{x.c, api.Ask, none, none, api.ErrUnable}, {x.c, api.Cut, none, none, api.ErrUnable}, {x.c, api.Cut, num(1), none, api.ErrUnable}, {x.q, api.Get, num(1), none, api.ErrUnable}, {x.k, api.Take, num(1), none, api.ErrUnable},
		{x.c, api.Get, num(1), none, api.ErrArg}, {x.l, api.Get, num(1), none, api.ErrArg}, {x.t, api.Get, text(""), none, api.ErrArg}, {x.p, api.Get, num(1), none, api.ErrArg}, {x.q, api.Take, text("1"), none, api.ErrArg}, {x.q, api.Take, none, none, api.ErrArg},
		{x.c, api.Get, none, num(1), 0}, {x.c, api.Put, list(ref(mint)), none, 0}, {x.c, api.Get, none, list(ref(mint)), 0}, {x.q, api.Give, num(4), none, 0}, {x.q, api.Take, num(1), list(num(4)), 0},
		{x.k, api.Give, num(5), none, 0}, {x.p, api.Get, none, num(5), 0},
	} {
		v, e := Do(x.w, c.r, c.able, c.v)
		if e != c.e || !value.Same(v, c.want) {
			t.Error(i, v, e)
		}
	}
	Give(x.w, x.l, num(1))
	Give(x.w, x.l, num(1))
	Give(x.w, x.q, num(1))
	p, _, _ := Promise(x.w, 0)
	for r, n := range map[api.Ref]int{x.c: 1, x.l: 2, x.q: 1, x.p: 1, p: 0, x.t: 0, x.k: 0} {
		if got, e := Len(x.w, r); got != n || e != api.OK {
			t.Error(r, got, e)
		}
	}
	for r, want := range map[api.Ref]api.Errno{99: api.ErrRef, mint: api.ErrPlain, facet: api.ErrPlain} {
		if got, e := Len(x.w, r); got != 0 || e != want {
			t.Error(r, got, e)
		}
	}
}

func TestP8_4Refused(t *testing.T) {
	r := rand.New(rand.NewSource(1))
	x := lay(t)
	for range 3000 {
		before := x.w.Copy()
		v := []api.Value{none, num(int64(r.Intn(4)) - 1), ref(api.Ref(r.Intn(9))), list(num(1))}[r.Intn(4)]
		if _, e := Do(x.w, api.Ref(r.Intn(8)), api.Able(1<<r.Intn(7)), v); e != api.OK && !world.Same(before, x.w) {
			t.Fatal(e)
		}
	}
}

func TestP8_5Things(t *testing.T) {
	r := rand.New(rand.NewSource(2))
	x := lay(t)
	var given, logged, taken []api.Value
	sum, cell, kept := int64(0), num(1), false
	for range 400 {
		v := num(int64(r.Intn(50)))
		switch r.Intn(6) {
		case 0:
			Give(x.w, x.q, v)
			given = append(given, v)
		case 1:
			if got, e := Take(x.w, x.q, int64(r.Intn(3))); e == api.OK {
				taken = append(taken, got.L...)
			}
		case 2:
			Give(x.w, x.l, v)
			logged = append(logged, v)
		case 3:
			Give(x.w, x.t, v)
			sum += v.N
		case 4:
			Put(x.w, x.c, v)
			cell = v
		case 5:
			if e := Give(x.w, x.k, v); !kept && e == api.OK {
				kept = true
				got, _ := Get(x.w, x.p)
				want(t, got, 0, v, 0)
			} else if e != api.ErrDone {
				t.Error(e)
			}
		}
		q, _ := x.w.What(x.q)
		want(t, list(append(append([]api.Value{}, taken...), q.Values...)...), 0, list(given...), 0)
		v, e := Get(x.w, x.l)
		want(t, v, e, list(logged...), 0)
		v, e = Get(x.w, x.t)
		want(t, v, e, num(sum), 0)
		v, e = Get(x.w, x.c)
		want(t, v, e, cell, 0)
	}
}

func TestP8_6Content(t *testing.T) {
	x := lay(t)
	v := list(list(num(1)), text(strings.Repeat("a", 256)))
	Put(x.w, x.c, v)
	Give(x.w, x.l, v)
	Give(x.w, x.q, v)
	Give(x.w, x.k, v)
	v.L[0].L[0] = num(2)
	good := list(list(num(1)), text(strings.Repeat("a", 256)))
	a, _ := Get(x.w, x.c)
	b, _ := Get(x.w, x.l)
	p, _ := Get(x.w, x.p)
	want(t, a, 0, good, 0)
	want(t, b, 0, list(good), 0)
	want(t, p, 0, good, 0)
	a.L[0].L[0], b.L[0].L[0], p.L[0].L[0] = num(3), num(3), num(3)
	a, _ = Get(x.w, x.c)
	b, _ = Get(x.w, x.l)
	p, _ = Get(x.w, x.p)
	q, _ := Take(x.w, x.q, 1)
	want(t, a, 0, good, 0)
	want(t, b, 0, list(good), 0)
	want(t, p, 0, good, 0)
	want(t, q, 0, list(good), 0)
}
