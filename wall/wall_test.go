package wall

import (
	"errors"
	"math/bits"
	"math/rand"
	"reflect"
	"slices"
	"testing"

	"postern/act"
	"postern/api"
	"postern/world"
)

var none = api.Value{}

func num(n int64) api.Value            { return api.Value{Kind: api.Number, N: n} }
func ref(r api.Ref) api.Value          { return api.Value{Kind: api.Reference, R: r} }
func sides(l ...api.Side) []api.Side   { return l }
func ints(l ...int) []int              { return l }
func edge(n int, open bool) api.Hop    { return api.Hop{Edge: n, Open: open} }
func on(r api.Ref, open bool) api.Hop  { return api.Hop{Thing: r, Open: open} }
func same[T comparable](a, b []T) bool { return slices.Equal(a, b) }

// lay is the world of the chapter's examples.
func lay(t *testing.T) *world.World {
	t.Helper()
	w, _ := world.New(0, 0, 1)
	for _, x := range []api.What{{Kind: api.Cell, Home: 3}, {Kind: api.Switch, Home: 2}, {Kind: api.Gate, Home: 2, Of: 1, By: 2}} {
		if _, e := w.Make(x); e != api.OK {
			t.Fatal(e)
		}
	}
	if r, e := w.Facet(3, api.Get); r != 4 || e != api.OK {
		t.Fatal(r, e)
	}
	return w
}

func code(err error) api.Errno {
	var f api.Fault
	if errors.As(err, &f) {
		return f.Code()
	}
	return api.OK
}

func TestNilWorlds(t *testing.T) {
	for _, w := range []*world.World{nil, {}} {
		_, e1 := Path(w, 9, 9)
		_, e2 := Hops(w, 9, 0)
		_, _, e3 := Halves(w, 0)
		_, e4 := Part(w, sides(9), sides(9))
		for i, e := range []api.Errno{e1, e2, e3, e4, Cut(w, 0)} {
			if e != api.ErrNil {
				t.Error(i, e)
			}
		}
		if _, err := Why(w, 0, 1, 64, none); code(err) != api.ErrNil {
			t.Error(err)
		}
		hop, at, stopped := Stop(w, 0, 1)
		if hop != (api.Hop{}) || at != 0 || stopped || Islands(w) != nil {
			t.Error(hop, at, stopped)
		}
		for r := range Sees(w, 0) {
			t.Error(r)
		}
	}
}

func TestP15_1Sides(t *testing.T) {
	w := lay(t)
	for _, c := range []struct {
		a, b api.Side
		want []int
		e    api.Errno
	}{{3, 2, ints(3, 1, 2), 0}, {2, 3, ints(2, 1, 3), 0}, {1, 1, nil, 0}, {0, 3, ints(1, 3), 0}, {3, 1, ints(3), 0}, {4, 0, nil, api.ErrArg}, {0, -1, nil, api.ErrArg}} {
		if l, e := Path(w, c.a, c.b); !same(l, c.want) || e != c.e {
			t.Error(c, l, e)
		}
	}
	for edge, c := range map[int][2][]api.Side{1: {sides(1, 3), sides(0, 2)}, 2: {sides(2), sides(0, 1, 3)}, 3: {sides(3), sides(0, 1, 2)}} {
		if a, b, e := Halves(w, edge); !same(a, c[0]) || !same(b, c[1]) || e != api.OK {
			t.Error(edge, a, b, e)
		}
	}
	for _, n := range ints(0, 4, -1) {
		if a, b, e := Halves(w, n); a != nil || b != nil || e != api.ErrArg {
			t.Error(n, a, b, e)
		}
	}
	if l := Islands(w); !reflect.DeepEqual(l, [][]api.Side{{0, 1, 2, 3}}) {
		t.Error(l)
	}
	Cut(w, 1)
	if l := Islands(w); !reflect.DeepEqual(l, [][]api.Side{{0, 2}, {1, 3}}) {
		t.Error(l)
	}
	Cut(w, 2, 3)
	if l := Islands(w); !reflect.DeepEqual(l, [][]api.Side{{0}, {1}, {2}, {3}}) {
		t.Error(l)
	}
}

func TestP15_2Hops(t *testing.T) {
	w := lay(t)
	l, e := Hops(w, 0, 4)
	if e != api.OK || !same(l, []api.Hop{on(4, true), edge(2, true), on(3, true), edge(2, true), edge(1, true), edge(3, true), on(1, true)}) {
		t.Error(l, e)
	}
	for _, c := range []struct {
		from api.Side
		r    api.Ref
		e    api.Errno
	}{{9, 99, api.ErrArg}, {-1, 1, api.ErrArg}, {0, 9, api.ErrRef}} {
		l, e := Hops(w, c.from, c.r)
		hop, at, stopped := Stop(w, c.from, c.r)
		if l != nil || e != c.e || hop != (api.Hop{}) || at != 0 || stopped {
			t.Error(c, l, e)
		}
	}
	if hop, at, stopped := Stop(w, 0, 4); hop != (api.Hop{}) || at != 0 || stopped {
		t.Error(hop, at, stopped)
	}
	Cut(w, 3)
	if hop, at, stopped := Stop(w, 0, 4); hop != edge(3, false) || at != 5 || !stopped {
		t.Error(hop, at, stopped)
	}
	if _, _, stopped := Stop(w, 3, 1); stopped {
		t.Error("stopped")
	}
	x, _ := w.What(2)
	x.Full = true
	w.Lay(2, x)
	if hop, at, stopped := Stop(w, 0, 4); hop != on(3, false) || at != 2 || !stopped {
		t.Error(hop, at, stopped)
	}
	if l, _ := Hops(w, 2, 3); !same(l, []api.Hop{on(3, false), edge(2, true), edge(1, true), edge(3, false), on(1, true)}) {
		t.Error(l)
	}
}

func TestP15_3Why(t *testing.T) {
	w := lay(t)
	Cut(w, 3)
	before := w.Copy()
	for i, c := range []struct {
		from api.Side
		r    api.Ref
		by   api.Able
		v    api.Value
		hop  api.Hop
		e    api.Errno
	}{{0, 4, api.Get, none, edge(3, false), api.ErrCut}, {3, 1, api.Get, none, api.Hop{}, 0}, {3, 1, api.Put, num(1), api.Hop{}, 0}, {3, 1, api.Take, num(1), api.Hop{}, api.ErrUnable}, {0, 4, api.Put, num(1), api.Hop{}, api.ErrUnable}, {0, 99, api.Get, none, api.Hop{}, api.ErrRef}, {9, 1, api.Get, none, api.Hop{}, api.ErrArg}} {
		hop, err := Why(w, c.from, c.r, c.by, c.v)
		if hop != c.hop || code(err) != c.e || (err == nil) != (c.e == api.OK) || !world.Same(w, before) {
			t.Error(i, hop, err)
		}
	}
	k, _ := w.Make(api.What{Kind: api.Clerk})
	if hop, err := Why(w, 0, k, api.Ask, none); code(err) != api.ErrState || hop != (api.Hop{}) {
		t.Error(hop, err)
	}
	m, _ := w.Make(api.What{Kind: api.Mint})
	p, _ := w.Make(api.What{Kind: api.Purse, Of: m})
	q, _ := w.Make(api.What{Kind: api.Purse, Of: m})
	l, e := act.Make(w, 3, api.Making{Kind: api.Tap, Of: q})
	if e != api.OK {
		t.Fatal(e)
	}
	if hop, err := Why(w, 1, p, api.Give, ref(l[0])); code(err) != api.ErrCut || hop != edge(3, false) {
		t.Error(hop, err)
	}
	Cut(w, 1)
	if hop, err := Why(w, 1, p, api.Give, ref(l[0])); code(err) != api.ErrCut || hop != edge(1, false) {
		t.Error("the way to the purse comes first", hop, err)
	}
	if hop, err := Why(w, 0, p, api.Give, ref(q)); err != nil || hop != (api.Hop{}) {
		t.Error(hop, err)
	}
}

func TestP15_4SeesCut(t *testing.T) {
	w := lay(t)
	see := Sees(w, 0)
	Cut(w, 3)
	got := map[api.Ref]bool{}
	last := api.Ref(0)
	for r, free := range see {
		if got[r] = free; r <= last {
			t.Error("does not rise")
		}
		last = r
		Cut(w, 2)
	}
	if !reflect.DeepEqual(got, map[api.Ref]bool{1: false, 2: true, 3: false, 4: false}) {
		t.Error(got)
	}
	for range see {
		break
	}
	for _, s := range sides(-1, 4) {
		for r := range Sees(w, s) {
			t.Error(r)
		}
	}
	w = lay(t)
	before := w.Copy()
	for _, l := range [][]int{{1, 9}, {0}, {1, -1}, {4}} {
		if e := Cut(w, l...); e != api.ErrArg || !world.Same(w, before) {
			t.Error(l, e)
		}
	}
	if e := Cut(w); e != api.OK || !world.Same(w, before) {
		t.Error(e)
	}
	if e := Cut(w, 3, 1, 3); e != api.OK || !w.IsCut(1) || !w.IsCut(3) || w.IsCut(2) {
		t.Error(e)
	}
}

func TestP15_5Part(t *testing.T) {
	w := lay(t)
	before := w.Copy()
	for i, c := range []struct {
		a, b []api.Side
		want []int
		e    api.Errno
	}{{sides(3), sides(2), ints(1), 0}, {sides(2, 3), sides(0), ints(1, 2), 0}, {sides(0), sides(0), nil, api.ErrWall}, {sides(1, 3), sides(0, 2), ints(1), 0}, {nil, sides(1), nil, 0}, {sides(1), nil, nil, 0}, {sides(3, 3, 3), sides(2, 0), ints(1), 0},
		{sides(9, 0), sides(0), nil, api.ErrArg}, {sides(0), sides(0, -1), nil, api.ErrArg}, {sides(0, 3), sides(1, 2), ints(1, 2, 3), 0}} {
		if l, e := Part(w, c.a, c.b); !same(l, c.want) || e != c.e || !world.Same(w, before) {
			t.Error(i, l, e)
		}
	}
	Cut(w, 1)
	if l, e := Part(w, sides(2, 3), sides(0)); !same(l, ints(2)) || e != api.OK {
		t.Error(l, e)
	}
	if l, e := Part(w, sides(3), sides(2)); l != nil || e != api.OK {
		t.Error(l, e)
	}
}

// random makes a world of some sides, edges that are cut, and things before one another.
func random(r *rand.Rand, n int) *world.World {
	var parents []api.Side
	for s := 1; s < n; s++ {
		parents = append(parents, api.Side(r.Intn(s)))
	}
	w, _ := world.New(parents...)
	w.Make(api.What{Kind: api.Cell, Home: api.Side(r.Intn(n))})
	for range 12 {
		x := api.Making{Kind: []api.Kind{api.Gate, api.Tap, api.Facet, api.Cell}[r.Intn(4)]}
		if x.Kind != api.Cell {
			x.Of = api.Ref(1 + r.Intn(w.Len()))
		}
		act.Make(w, api.Side(r.Intn(n)), x)
	}
	for range r.Intn(3) {
		w.CutEdge(1 + r.Intn(n-1))
		act.Do(w, 0, api.Ref(1+r.Intn(w.Len())), api.Cut, none, nil)
	}
	return w
}

func TestP15_6Stopped(t *testing.T) {
	r := rand.New(rand.NewSource(1))
	for range 100 {
		w := random(r, 8)
		for from := range api.Side(8) {
			for q := range w.Things() {
				hop, at, stopped := Stop(w, from, q)
				l, _ := Hops(w, from, q)
				if stopped != (w.Free(from, q) == api.ErrCut) {
					t.Fatal(from, q, hop)
				}
				for i, h := range l {
					if i < at && !h.Open || stopped && i == at && h != hop {
						t.Error(l, at)
					}
				}
				if e := act.Why(w, from, q, api.Get, none); e != api.ErrUnable && (e == api.ErrCut) != stopped {
					t.Error(from, q, e)
				}
			}
		}
	}
}

func TestP15_7Tree(t *testing.T) {
	r := rand.New(rand.NewSource(2))
	for range 60 {
		w := random(r, 10)
		for a := range api.Side(10) {
			for b := range api.Side(10) {
				there, _ := Path(w, a, b)
				back, _ := Path(w, b, a)
				slices.Reverse(back)
				cut := slices.ContainsFunc(there, w.IsCut)
				sorted := slices.Sorted(slices.Values(there))
				if !same(there, back) || w.Open(a, b) == cut || len(slices.Compact(sorted)) != len(there) {
					t.Error(a, b, there, back)
				}
			}
		}
		was := Islands(w)
		edge := 1 + r.Intn(9)
		below, others, _ := Halves(w, edge)
		isCut := w.IsCut(edge)
		c := w.Copy()
		Cut(c, edge)
		now := Islands(c)
		if n := len(slices.Concat(now...)); n != 10 || len(now) != len(was) && isCut || len(now) != len(was)+1 && !isCut {
			t.Error(was, now)
		}
		for a := range api.Side(10) {
			for b := range api.Side(10) {
				apart := slices.Contains(below, a) != slices.Contains(below, b)
				if c.Open(a, b) != (w.Open(a, b) && !apart) || slices.Contains(below, a) == slices.Contains(others, a) {
					t.Error(a, b, edge)
				}
			}
		}
	}
}

// parted says whether no side of a is open to one of b, these edges being cut.
func parted(w *world.World, a, b []api.Side, l []int) bool {
	c := w.Copy()
	Cut(c, l...)
	for _, x := range a {
		for _, y := range b {
			if c.Open(x, y) {
				return false
			}
		}
	}
	return true
}

func TestP15_8Parted(t *testing.T) {
	r := rand.New(rand.NewSource(3))
	for range 60 {
		w := random(r, 7)
		var a, b []api.Side
		for s := range api.Side(7) {
			switch r.Intn(3) {
			case 0:
				a = append(a, s)
			case 1:
				b = append(b, s)
			}
		}
		l, e := Part(w, a, b)
		back, _ := Part(w, b, a)
		if e != api.OK || !same(l, back) || !parted(w, a, b, l) {
			t.Error(l, back, e)
		}
		var first []int
		for set := range 1 << 6 {
			var try []int
			for i := range 6 {
				if set>>i&1 == 1 {
					try = append(try, i+1)
				}
			}
			n := bits.OnesCount(uint(set))
			if n < len(l) && parted(w, a, b, try) {
				t.Error("fewer do", try, l)
			}
			if n == len(l) && parted(w, a, b, try) && (first == nil || slices.Compare(try, first) < 0) {
				first = try
			}
		}
		if !same(first, l) {
			t.Error("another one is first", first, l)
		}
		x, y := api.Side(r.Intn(7)), api.Side(r.Intn(7))
		if l, e := Part(w, sides(x), sides(y)); x != y && (len(l) > 1 || e != api.OK || (len(l) == 0) == w.Open(x, y)) {
			t.Error(l, e)
		}
	}
}

func TestP15_8Great(t *testing.T) {
	parents := make([]api.Side, 15)
	w, _ := world.New(parents...)
	l, e := Part(w, sides(0), sides(1, 2, 3, 4, 5, 6, 7, 8, 9, 10, 11, 12, 13, 14, 15))
	if e != api.OK || len(l) != 15 {
		t.Error(l, e)
	}
}

func TestP15_9StaysStopped(t *testing.T) {
	r := rand.New(rand.NewSource(4))
	for range 20 {
		w := random(r, 6)
		type pair struct {
			from api.Side
			r    api.Ref
		}
		stopped := map[pair]bool{}
		for range 60 {
			for from := range api.Side(6) {
				for q := range w.Things() {
					if _, _, is := Stop(w, from, q); is {
						stopped[pair{from, q}] = true
					} else if stopped[pair{from, q}] {
						t.Fatal("free again")
					}
				}
			}
			switch r.Intn(6) {
			case 0:
				w.CutEdge(1 + r.Intn(5))
			case 1:
				act.Make(w, api.Side(r.Intn(6)), api.Making{Kind: api.Gate, Of: api.Ref(1 + r.Intn(w.Len()))})
			default:
				act.Do(w, api.Side(r.Intn(6)), api.Ref(1+r.Intn(w.Len())), []api.Able{api.Get, api.Cut}[r.Intn(2)], none, nil)
			}
		}
	}
}
