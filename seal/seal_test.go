package seal

import (
	"math/rand"
	"reflect"
	"slices"
	"testing"

	"postern/api"
	"postern/value"
	"postern/world"
)

func num(n int64) api.Value         { return api.Value{Kind: api.Number, N: n} }
func ref(r api.Ref) api.Value       { return api.Value{Kind: api.Reference, R: r} }
func list(l ...api.Value) api.Value { return api.Value{Kind: api.List, L: l} }
func refs(l ...api.Ref) []api.Ref   { return l }

var none = api.Value{}

func lay(t *testing.T) *world.World {
	t.Helper()
	w, _ := world.New()
	for i := api.Ref(1); i < 5; i += 2 {
		if s, o, e := Pair(w, 0); s != i || o != i+1 || e != api.OK {
			t.Fatal(s, o, e)
		}
	}
	return w
}

func TestP9_1Pair(t *testing.T) {
	w := lay(t)
	if w.Kind(1) != api.Sealer || w.Kind(2) != api.Opener {
		t.Error("kinds")
	}
	for home, want := range map[api.Side]api.Errno{1: api.ErrArg, -1: api.ErrArg} {
		if s, o, e := Pair(w, home); s != 0 || o != 0 || e != want {
			t.Error(s, o, e)
		}
	}
	for w.Made(0) < api.MaxThings-1 {
		w.Make(api.What{Kind: api.Log})
	}
	before := w.Copy()
	if s, o, e := Pair(w, 0); s != 0 || o != 0 || e != api.ErrLimit || !world.Same(w, before) {
		t.Error(s, o, e)
	}
	two, _ := world.New(0)
	if s, _, e := Pair(two, 1); e != api.OK {
		t.Error(e)
	} else if home, _ := two.Home(s); home != 1 {
		t.Error(home)
	}
}

func TestNilWorlds(t *testing.T) {
	for _, w := range []*world.World{nil, {}} {
		_, _, e1 := Pair(w, 9)
		_, e2 := Seal(w, 0, ref(0))
		_, e3 := Open(w, 0, ref(0))
		_, e4 := Do(w, 0, 3, ref(0))
		_, e5 := Mark(w, 0)
		_, e6 := Same(w, 0, 0)
		_, e7 := Boxes(w, 0)
		_, e8 := Unlocked(w, ref(0))
		for i, e := range []api.Errno{e1, e2, e3, e4, e5, e6, e7, e8} {
			if e != api.ErrNil {
				t.Error(i, e)
			}
		}
		for r := range Pairs(w) {
			t.Error(r)
		}
	}
}

func TestP9_2SealOpen(t *testing.T) {
	w := lay(t)
	if b, e := Seal(w, 1, num(7)); b != 5 || e != api.OK {
		t.Fatal(b, e)
	}
	for i, c := range []struct {
		opener api.Ref
		v      api.Value
		want   api.Value
		e      api.Errno
	}{{2, ref(5), num(7), 0}, {4, ref(5), none, api.ErrBox}, {2, num(5), none, api.ErrBox}, {1, ref(5), none, api.ErrSeal}, {5, ref(5), none, api.ErrSeal}, {2, ref(1), none, api.ErrBox}, {2, list(ref(5)), none, api.ErrBox},
		{9, ref(0), none, api.ErrArg}, {9, ref(5), none, api.ErrRef}, {2, ref(9), none, api.ErrRef}, {1, ref(9), none, api.ErrRef}, {2, none, none, api.ErrBox}} {
		if v, e := Open(w, c.opener, c.v); e != c.e || !value.Same(v, c.want) {
			t.Error(i, v, e)
		}
	}
	before := w.Copy()
	for i, c := range []struct {
		sealer api.Ref
		v      api.Value
		e      api.Errno
	}{{2, num(7), api.ErrSeal}, {5, num(7), api.ErrSeal}, {9, num(7), api.ErrRef}, {1, ref(9), api.ErrRef}, {9, ref(0), api.ErrArg}, {2, ref(9), api.ErrRef}} {
		if b, e := Seal(w, c.sealer, c.v); b != 0 || e != c.e || !world.Same(w, before) {
			t.Error(i, b, e)
		}
	}
	tap, _ := w.Make(api.What{Kind: api.Tally})
	tap, _ = w.Make(api.What{Kind: api.Tap, Of: 5, By: tap})
	if _, e := Open(w, 2, ref(tap)); e != api.ErrBox {
		t.Error("a tap before a box is none", e)
	}
	facet, _ := w.Facet(1, 0)
	if _, e := Seal(w, facet, num(1)); e != api.ErrSeal {
		t.Error(e)
	}
	far, _ := world.New(0)
	s, _, _ := Pair(far, 1)
	b, _ := Seal(far, s, none)
	if home, _ := far.Home(b); home != 1 {
		t.Error("home", home)
	}
	for far.Made(1) < api.MaxThings {
		far.Make(api.What{Kind: api.Log, Home: 1})
	}
	if _, e := Seal(far, s, none); e != api.ErrLimit {
		t.Error(e)
	}
	if _, e := Seal(far, b, none); e != api.ErrSeal {
		t.Error(e)
	}
}

func TestP9_3Do(t *testing.T) {
	w := lay(t)
	Seal(w, 1, num(7))
	w.Make(api.What{Kind: api.Cell})
	for i, c := range []struct {
		r    api.Ref
		able api.Able
		v    api.Value
		want api.Value
		e    api.Errno
	}{{1, api.Ask, num(8), ref(7), 0}, {2, api.Ask, ref(7), num(8), 0}, {4, api.Ask, ref(7), none, api.ErrBox}, {2, api.Ask, num(1), none, api.ErrBox}, {1, api.Get, none, none, api.ErrUnable}, {1, api.Get, num(1), none, api.ErrArg},
		{5, api.Ask, num(1), none, api.ErrUnable}, {5, api.Get, none, none, api.ErrUnable}, {2, api.Put, num(1), none, api.ErrUnable}, {1, api.Cut, num(1), none, api.ErrArg}, {1, api.Cut, none, none, api.ErrUnable}, {2, api.Take, none, none, api.ErrUnable},
		{6, api.Get, none, none, api.ErrSeal}, {6, api.Take, num(1), none, api.ErrSeal}, {9, api.Get, num(1), none, api.ErrArg}, {9, api.Ask, num(1), none, api.ErrRef}, {6, api.Ask, ref(9), none, api.ErrRef},
		{1, api.Get | api.Ask, none, none, api.ErrArg}, {1, 0, none, none, api.ErrArg}, {1, 64, none, none, api.ErrArg}, {1, api.Ask, ref(0), none, api.ErrArg}} {
		if v, e := Do(w, c.r, c.able, c.v); e != c.e || !value.Same(v, c.want) {
			t.Error(i, v, e)
		}
	}
}

func TestP9_4Pairs(t *testing.T) {
	w := lay(t)
	Seal(w, 1, none)
	Seal(w, 3, none)
	Seal(w, 1, none)
	w.Make(api.What{Kind: api.Cell})
	pairs := map[api.Ref]api.Ref{1: 1, 2: 1, 5: 1, 7: 1, 3: 3, 4: 3, 6: 3}
	boxes := map[api.Ref][]api.Ref{1: refs(5, 7), 3: refs(6)}
	for r, p := range pairs {
		m, e := Mark(w, r)
		if e != api.OK || !value.Same(m.Told(), ref(p)) {
			t.Error(r, m, e)
		}
		if l, e := Boxes(w, r); e != api.OK || !slices.Equal(l, boxes[p]) {
			t.Error(r, l, e)
		}
		for q, o := range pairs {
			if same, e := Same(w, r, q); same != (p == o) || e != api.OK {
				t.Error(r, q, same, e)
			}
		}
	}
	for r, want := range map[api.Ref]api.Errno{8: api.ErrSeal, 9: api.ErrRef, 0: api.ErrRef} {
		m, e1 := Mark(w, r)
		s1, e2 := Same(w, r, 1)
		s2, e3 := Same(w, 1, r)
		l, e4 := Boxes(w, r)
		if m != nil || s1 || s2 || l != nil || e1 != want || e2 != want || e3 != want || e4 != want {
			t.Error(r, e1, e2, e3, e4)
		}
	}
	if _, e := Same(w, 8, 9); e != api.ErrRef {
		t.Error(e)
	}
	var told []int
	all := Pairs(w)
	Seal(w, 3, none)
	for r, n := range all {
		told = append(told, int(r), n)
	}
	if !reflect.DeepEqual(told, []int{1, 2, 3, 2}) {
		t.Error(told)
	}
	for range all {
		break
	}
	// What is told is as it was when the walk began.
	told = nil
	for r, n := range all {
		told = append(told, int(r), n)
		w.Drop(3, 4, 6, 9)
	}
	if !reflect.DeepEqual(told, []int{1, 2, 3, 2}) || w.Is(3) {
		t.Error(told)
	}
}

func TestP9_5Unlocked(t *testing.T) {
	w := lay(t)
	Seal(w, 1, num(1))
	Seal(w, 1, num(1))
	Seal(w, 3, list(ref(2), ref(4))) // 7
	Seal(w, 1, ref(3))               // 8
	for i, c := range []struct {
		v    api.Value
		want []api.Ref
		e    api.Errno
	}{{list(ref(8), ref(7)), refs(7, 8), 0}, {list(ref(8), ref(7), ref(4)), refs(2, 3, 4, 7, 8), 0}, {num(1), nil, 0}, {list(ref(8), ref(2), ref(8)), refs(2, 3, 8), 0}, {ref(0), nil, api.ErrArg}, {ref(99), nil, api.ErrRef}, {list(ref(8), ref(4)), refs(4, 8), 0}} {
		if l, e := Unlocked(w, c.v); e != c.e || !slices.Equal(l, c.want) {
			t.Error(i, l, e)
		}
	}
	cell, _ := w.Make(api.What{Kind: api.Cell, Value: ref(2)})
	sw, _ := w.Make(api.What{Kind: api.Switch})
	gate, _ := w.Make(api.What{Kind: api.Gate, Of: 2, By: sw})
	if l, _ := Unlocked(w, list(ref(8), ref(cell), ref(gate))); !slices.Equal(l, refs(8, cell, gate)) {
		t.Error("cells and gates are not looked into", l)
	}
}

// random makes a world with boxes within boxes.
func random(r *rand.Rand) *world.World {
	w, _ := world.New()
	for range 4 {
		Pair(w, 0)
	}
	for range 12 {
		v := list()
		for range r.Intn(3) {
			v.L = append(v.L, ref(api.Ref(1+r.Intn(w.Len()))))
		}
		Seal(w, api.Ref(1+2*r.Intn(4)), v)
	}
	return w
}

func TestP9_6Refused(t *testing.T) {
	r := rand.New(rand.NewSource(1))
	for range 30 {
		w := random(r)
		for range 50 {
			before := w.Copy()
			v := []api.Value{none, num(1), ref(api.Ref(r.Intn(w.Len() + 3)))}[r.Intn(3)]
			if _, e := Do(w, api.Ref(r.Intn(w.Len()+3)), api.Able(1<<r.Intn(7)), v); e != api.OK && !world.Same(w, before) {
				t.Fatal(e)
			}
		}
	}
	w := lay(t)
	v := list(num(1))
	b, _ := Seal(w, 1, v)
	v.L[0] = num(2)
	x, _ := Open(w, 2, ref(b))
	x.L[0] = num(3)
	if y, _ := Open(w, 2, ref(b)); !value.Same(y, list(num(1))) {
		t.Error("shared", y)
	}
}

func TestP9_7Sealed(t *testing.T) {
	w := lay(t)
	var boxes []api.Ref
	for i := range 20 {
		b, _ := Seal(w, 1, num(int64(i)))
		boxes = append(boxes, b)
		Seal(w, 3, ref(b))
		for j, b := range boxes {
			if v, e := Open(w, 2, ref(b)); e != api.OK || v.N != int64(j) {
				t.Error(v, e)
			}
			if _, e := Open(w, 4, ref(b)); e != api.ErrBox {
				t.Error(e)
			}
		}
	}
}

func TestP9_8Marks(t *testing.T) {
	w := random(rand.New(rand.NewSource(3)))
	keys := map[api.Mark]int{}
	for r := range w.Things() {
		m, _ := Mark(w, r)
		keys[m]++
		for q := range w.Things() {
			n, _ := Mark(w, q)
			if same, _ := Same(w, r, q); same != (m == n) {
				t.Error(r, q)
			}
		}
	}
	if len(keys) != 4 {
		t.Error(len(keys))
	}
}

func TestP9_9Unlocked(t *testing.T) {
	r := rand.New(rand.NewSource(2))
	for range 100 {
		w := random(r)
		v, more := list(), list()
		for range 1 + r.Intn(4) {
			v.L = append(v.L, ref(api.Ref(1+r.Intn(w.Len()))))
		}
		more.L = append(append(more.L, v.L...), ref(api.Ref(1+r.Intn(w.Len()))))
		few, _ := Unlocked(w, v)
		many, _ := Unlocked(w, more)
		again := list()
		seen := map[api.Ref]bool{}
		openers, boxes := 0, 0
		for _, x := range few {
			if !slices.Contains(many, x) {
				t.Error("more is less", few, many)
			}
			again.L = append(again.L, ref(x))
			seen[x] = true
			if w.Kind(x) == api.Opener {
				openers++
			} else if w.Kind(x) == api.Box {
				boxes++
			}
		}
		if l, _ := Unlocked(w, again); !slices.Equal(l, few) {
			t.Error(l, few)
		}
		given := map[api.Ref]bool{}
		for _, x := range v.L {
			given[x.R] = true
		}
		if (openers == 0 || boxes == 0) && len(few) != len(given) {
			t.Error(few, v)
		}
		for _, x := range few {
			in := given[x]
			for b := range seen {
				y, _ := w.What(b)
				in = in || y.Kind == api.Box && slices.Contains(value.Refs(y.Value), x)
			}
			if !in {
				t.Error("out of nothing", x)
			}
		}
	}
}
