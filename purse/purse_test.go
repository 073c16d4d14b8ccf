package purse

import (
	"math"
	"math/rand"
	"slices"
	"testing"

	"postern/api"
	"postern/world"
)

func lay(t *testing.T, parents ...api.Side) *world.World {
	t.Helper()
	w, e := world.New(parents...)
	if e != api.OK {
		t.Fatal(e)
	}
	return w
}

// want holds a reference and an error against what is wanted.
func want(t *testing.T, r api.Ref, e api.Errno, wr api.Ref, we api.Errno) {
	t.Helper()
	if r != wr || e != we {
		t.Error("got", r, e, "wanted", wr, we)
	}
}

func has(t *testing.T, w *world.World, amounts map[api.Ref]int64) {
	t.Helper()
	for r, n := range amounts {
		if got, e := Get(w, r); got != n || e != api.OK {
			t.Error(r, got, e)
		}
	}
}

func TestNilWorlds(t *testing.T) {
	for _, w := range []*world.World{nil, {}} {
		_, e1 := Mint(w, 9)
		_, e2 := Ask(w, 0, -1)
		_, e3 := Get(w, 0)
		_, e4 := Take(w, 0, -1)
		_, e5 := Of(w, 0)
		_, e6 := Purses(w, 0)
		_, _, _, e7 := Sum(w, 0)
		for i, e := range []api.Errno{e1, e2, e3, e4, e5, e6, e7, Move(w, 0, 0), Check(w)} {
			if e != api.ErrNil {
				t.Error(i, e)
			}
		}
	}
}

func TestP10_1Mint(t *testing.T) {
	w := lay(t, 0)
	m, e := Mint(w, 1)
	want(t, m, e, 1, 0)
	if x, _ := w.What(m); x.Kind != api.Mint || x.Home != 1 || x.N != 0 || x.Lost != 0 {
		t.Error(x)
	}
	for _, s := range []api.Side{2, -1} {
		m, e := Mint(w, s)
		want(t, m, e, 0, api.ErrArg)
	}
	for w.Made(1) < api.MaxThings {
		w.Make(api.What{Kind: api.Log, Home: 1})
	}
	m, e = Mint(w, 1)
	want(t, m, e, 0, api.ErrLimit)
}

func TestP10_2Ask(t *testing.T) {
	w := lay(t, 0)
	Mint(w, 1)
	p, e := Ask(w, 1, 10)
	want(t, p, e, 2, 0)
	if x, _ := w.What(2); x.Kind != api.Purse || x.Of != 1 || x.Home != 1 || x.N != 10 {
		t.Error(x)
	}
	before := w.Copy()
	for _, c := range []struct {
		r api.Ref
		n int64
		e api.Errno
	}{{1, -1, api.ErrArg}, {1, math.MinInt64, api.ErrArg}, {2, 1, api.ErrPurse}, {2, -1, api.ErrPurse}, {9, -1, api.ErrRef}, {1, api.MaxMoney - 9, api.ErrLimit}, {1, math.MaxInt64, api.ErrLimit}} {
		p, e := Ask(w, c.r, c.n)
		want(t, p, e, 0, c.e)
	}
	if !world.Same(w, before) {
		t.Error("a refused call changed something")
	}
	p, e = Ask(w, 1, 0)
	want(t, p, e, 3, 0)
	p, e = Ask(w, 1, api.MaxMoney-10)
	want(t, p, e, 4, 0)
	p, e = Ask(w, 1, 1)
	want(t, p, e, 0, api.ErrLimit)
	for w.Made(1) < api.MaxThings {
		w.Make(api.What{Kind: api.Log, Home: 1})
	}
	before = w.Copy()
	p, e = Ask(w, 1, 0)
	want(t, p, e, 0, api.ErrLimit)
	p, e = Take(w, 2, 0)
	want(t, p, e, 0, api.ErrLimit)
	p, e = Take(w, 2, 11)
	want(t, p, e, 0, api.ErrShort)
	if !world.Same(w, before) {
		t.Error("a refused call changed something")
	}
}

func TestP10_3GetTake(t *testing.T) {
	w := lay(t, 0)
	Mint(w, 1)
	Ask(w, 1, 10)
	q, e := Take(w, 2, 3)
	want(t, q, e, 3, 0)
	has(t, w, map[api.Ref]int64{2: 7, 3: 3})
	if x, _ := w.What(3); x.Of != 1 || x.Home != 1 {
		t.Error(x)
	}
	for _, c := range []struct {
		r api.Ref
		n int64
		e api.Errno
	}{{2, 8, api.ErrShort}, {1, 1, api.ErrPurse}, {2, -1, api.ErrArg}, {9, 1, api.ErrRef}, {1, -1, api.ErrPurse}, {2, math.MaxInt64, api.ErrShort}} {
		q, e := Take(w, c.r, c.n)
		want(t, q, e, 0, c.e)
	}
	q, e = Take(w, 2, 7)
	want(t, q, e, 4, 0)
	has(t, w, map[api.Ref]int64{2: 0, 3: 3, 4: 7})
	for r, we := range map[api.Ref]api.Errno{1: api.ErrPurse, 9: api.ErrRef, 0: api.ErrRef} {
		if n, e := Get(w, r); n != 0 || e != we {
			t.Error(r, n, e)
		}
	}
}

func TestP10_4Move(t *testing.T) {
	w := lay(t)
	Mint(w, 0)
	Ask(w, 1, 7)
	Ask(w, 1, 3)
	Mint(w, 0)
	Ask(w, 4, 5)
	if e := Move(w, 3, 2); e != api.OK {
		t.Error(e)
	}
	has(t, w, map[api.Ref]int64{2: 0, 3: 10, 5: 5})
	before := w.Copy()
	for _, c := range []struct {
		to, from api.Ref
		e        api.Errno
	}{{3, 3, api.ErrPurse}, {3, 5, api.ErrPurse}, {5, 3, api.ErrPurse}, {1, 3, api.ErrPurse}, {3, 1, api.ErrPurse}, {9, 3, api.ErrRef}, {3, 9, api.ErrRef}, {1, 9, api.ErrRef}, {9, 1, api.ErrRef}} {
		if e := Move(w, c.to, c.from); e != c.e || !world.Same(w, before) {
			t.Error(c, e)
		}
	}
	for _, r := range []api.Ref{2, 3} {
		x, _ := w.What(r)
		x.N = api.MaxMoney/2 + 1
		w.Lay(r, x)
	}
	before = w.Copy()
	if e := Move(w, 2, 3); e != api.ErrLimit || !world.Same(w, before) {
		t.Error(e)
	}
	x, _ := w.What(2)
	x.N = api.MaxMoney/2 - 1
	w.Lay(2, x)
	if e := Move(w, 2, 3); e != api.OK {
		t.Error(e)
	}
	has(t, w, map[api.Ref]int64{2: api.MaxMoney, 3: 0})
}

func TestP10_5Told(t *testing.T) {
	w := lay(t)
	Mint(w, 0)
	Ask(w, 1, 10)
	Take(w, 2, 3)
	Mint(w, 0)
	Ask(w, 4, 5)
	w.Make(api.What{Kind: api.Cell})
	for r, we := range map[api.Ref]api.Ref{1: 1, 2: 1, 3: 1, 4: 4, 5: 4} {
		m, e := Of(w, r)
		want(t, m, e, we, 0)
	}
	for r, we := range map[api.Ref]api.Errno{6: api.ErrPurse, 9: api.ErrRef} {
		m, e := Of(w, r)
		want(t, m, e, 0, we)
		l, e := Purses(w, r)
		if l != nil || e != we {
			t.Error(l, e)
		}
		if a, b, c, e := Sum(w, r); a != 0 || b != 0 || c != 0 || e != we {
			t.Error(e)
		}
	}
	if _, e := Purses(w, 2); e != api.ErrPurse {
		t.Error(e)
	}
	if _, _, _, e := Sum(w, 2); e != api.ErrPurse {
		t.Error(e)
	}
	if l, e := Purses(w, 1); !slices.Equal(l, []api.Ref{2, 3}) || e != api.OK {
		t.Error(l, e)
	}
	sum := func(r api.Ref, a, b, c int64) {
		t.Helper()
		if x, y, z, e := Sum(w, r); x != a || y != b || z != c || e != api.OK {
			t.Error(x, y, z, e)
		}
	}
	sum(1, 10, 0, 10)
	sum(4, 5, 0, 5)
	if e := Check(w); e != api.OK {
		t.Error(e)
	}
	w.Drop(3)
	sum(1, 7, 3, 10)
	if e := Check(w); e != api.OK {
		t.Error(e)
	}
	x, _ := w.What(2)
	x.N = 11
	w.Lay(2, x)
	sum(1, 11, 3, 10)
	if e := Check(w); e != api.ErrMoney {
		t.Error(e)
	}
	x.N = api.MaxMoney
	w.Lay(2, x)
	for range 3 {
		w.Make(api.What{Kind: api.Purse, Of: 1, N: api.MaxMoney})
	}
	sum(1, api.MaxMoney+1, 3, 10)
	if e := Check(w); e != api.ErrMoney {
		t.Error(e)
	}
	if e := Check(lay(t)); e != api.OK {
		t.Error(e)
	}
}

func TestP10_6Conserved(t *testing.T) {
	r := rand.New(rand.NewSource(1))
	for range 40 {
		w := lay(t)
		Mint(w, 0)
		Mint(w, 0)
		for range 150 {
			some := func() api.Ref { return api.Ref(r.Intn(w.Len() + 2)) }
			n := []int64{-1, 0, 1, 5, int64(r.Intn(40)), api.MaxMoney, math.MaxInt64}[r.Intn(7)]
			before := w.Copy()
			var e api.Errno
			switch r.Intn(4) {
			case 0:
				_, e = Ask(w, some(), n)
			case 1:
				_, e = Take(w, some(), n)
			case 2:
				e = Move(w, some(), some())
			case 3:
				if w.Len() < 20 {
					w.Make(api.What{Kind: api.Tally})
				}
			}
			if Check(w) != api.OK || e != api.OK && !world.Same(w, before) {
				t.Fatal(e)
			}
		}
	}
}

func TestP10_7Moves(t *testing.T) {
	w := lay(t)
	Mint(w, 0)
	Ask(w, 1, 100)
	for n := range int64(5) {
		q, _ := Take(w, 2, n*7)
		has(t, w, map[api.Ref]int64{2: 100 - n*7, q: n * 7})
		Move(w, 2, q)
		has(t, w, map[api.Ref]int64{2: 100, q: 0})
	}
	for n := range int64(4) {
		Ask(w, 1, n)
	}
	l, _ := Purses(w, 1)
	r := rand.New(rand.NewSource(2))
	for range 20 {
		c := w.Copy()
		for _, i := range r.Perm(len(l)) {
			Move(c, l[2], l[i])
		}
		has(t, c, map[api.Ref]int64{l[2]: 106})
	}
}
