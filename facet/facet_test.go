package facet

import (
	"math/rand"
	"slices"
	"testing"

	"postern/api"
	"postern/value"
	"postern/world"
)

func num(n int64) api.Value         { return api.Value{Kind: api.Number, N: n} }
func ref(r api.Ref) api.Value       { return api.Value{Kind: api.Reference, R: r} }
func list(l ...api.Value) api.Value { return api.Value{Kind: api.List, L: l} }

// lay makes a world with a log 1, a cell 2, a gate 4 of the cell, a purse 6 and a box 8.
func lay(t *testing.T) *world.World {
	t.Helper()
	w, _ := world.New()
	for _, x := range []api.What{{Kind: api.Log}, {Kind: api.Cell}, {Kind: api.Switch}, {Kind: api.Gate, Of: 2, By: 3}, {Kind: api.Mint}, {Kind: api.Purse, Of: 5}, {Kind: api.Sealer}, {Kind: api.Box, Of: 7}} {
		if _, e := w.Make(x); e != api.OK {
			t.Fatal(x, e)
		}
	}
	return w
}

func narrowed(t *testing.T, w *world.World, r api.Ref, set api.Able) api.Ref {
	t.Helper()
	f, e := Narrow(w, r, set)
	if e != api.OK {
		t.Fatal(r, set, e)
	}
	return f
}

func TestNilWorlds(t *testing.T) {
	for _, w := range []*world.World{nil, {}} {
		_, e1 := Narrow(w, 0, 64)
		_, e2 := Stack(w, 0)
		_, e3 := Root(w, 0)
		_, e4 := Meet(w, 0, 0)
		_, e5 := Less(w, 0, 0)
		_, e6 := Of(w, 0)
		_, e7 := Only(w, ref(0), 64)
		for i, e := range []api.Errno{e1, e2, e3, e4, e5, e6, e7} {
			if e != api.ErrNil {
				t.Error(i, e)
			}
		}
		if r, ok := Find(w, 1, 1); r != 0 || ok {
			t.Error(r, ok)
		}
	}
}

func TestP11_1Narrow(t *testing.T) {
	w := lay(t)
	if r, ok := Find(w, 1, api.Get); r != 0 || ok {
		t.Error("not made yet", r)
	}
	f := narrowed(t, w, 1, api.Get)
	if f != 9 || narrowed(t, w, 1, api.Get) != f || narrowed(t, w, 1, api.Get|api.Cut) != f || w.Able(f) != api.Get {
		t.Error(f)
	}
	if narrowed(t, w, 1, api.Get|api.Give|api.Cut) != 1 || narrowed(t, w, f, api.All) != f || narrowed(t, w, 8, 0) != 8 {
		t.Error("the thing itself")
	}
	none := narrowed(t, w, 1, api.Put)
	if w.Able(none) != 0 || narrowed(t, w, f, api.Give) != none || narrowed(t, w, 1, api.None) != none {
		t.Error("none", none)
	}
	g := narrowed(t, w, 4, api.Put)
	if x, _ := w.What(g); x.Of != 4 || x.Set != api.Put {
		t.Error(x)
	}
	for _, c := range []struct {
		r   api.Ref
		set api.Able
		e   api.Errno
	}{{2, 64, api.ErrArg}, {99, 64, api.ErrArg}, {99, api.Get, api.ErrRef}, {0, 0, api.ErrRef}} {
		n, e := Narrow(w, c.r, c.set)
		m, f := Stack(w, c.r, 0, c.set)
		if n != 0 || e != c.e || m != 0 || f != c.e {
			t.Error(c, n, e, m, f)
		}
		if r, ok := Find(w, c.r, c.set); r != 0 || ok {
			t.Error(c, r, ok)
		}
	}
	if r, ok := Find(w, 1, api.All); r != 1 || !ok {
		t.Error(r, ok)
	}
	if r, ok := Find(w, f, api.Give); r != none || !ok {
		t.Error(r, ok)
	}
}

func TestP11_1Stack(t *testing.T) {
	w := lay(t)
	n := w.Len()
	r, e := Stack(w, 2, api.All, api.Get, api.Get|api.Put)
	if e != api.OK || r != narrowed(t, w, 2, api.Get) || w.Len() != n+1 {
		t.Error(r, e)
	}
	if r, e := Stack(w, 2); r != 2 || e != api.OK {
		t.Error(r, e)
	}
	if s, e := Stack(w, r); s != r || e != api.OK {
		t.Error(s, e)
	}
	if _, e := Stack(w, 6, api.Get|api.Take, api.Take|api.Give, api.Get); e != api.OK || w.Len() != n+2 {
		t.Error("the steps on the way are not made", w.Len()-n)
	}
	if _, e := Stack(w, 99); e != api.ErrRef {
		t.Error(e)
	}
}

func TestP11_2Roots(t *testing.T) {
	w := lay(t)
	put, get := narrowed(t, w, 2, api.Put), narrowed(t, w, 1, api.Get)
	root := func(r, want api.Ref, we api.Errno) {
		t.Helper()
		if x, e := Root(w, r); x != want || e != we {
			t.Error(r, x, e)
		}
	}
	root(put, 2, 0)
	root(2, 2, 0)
	root(4, 4, 0)
	root(99, 0, api.ErrRef)
	meet := func(r, q, want api.Ref, we api.Errno) {
		t.Helper()
		if x, e := Meet(w, r, q); x != want || e != we {
			t.Error(r, q, x, e)
		}
	}
	meet(put, 2, put, 0)
	meet(2, put, put, 0)
	meet(2, 2, 2, 0)
	meet(put, 1, 0, api.ErrOther)
	meet(2, 4, 0, api.ErrOther)
	meet(2, 99, 0, api.ErrRef)
	meet(99, 2, 0, api.ErrRef)
	less := func(r, q api.Ref, want bool, we api.Errno) {
		t.Helper()
		if x, e := Less(w, r, q); x != want || e != we {
			t.Error(r, q, x, e)
		}
	}
	less(get, 1, true, 0)
	less(1, get, false, 0)
	less(1, 2, false, 0)
	less(2, 4, false, 0)
	less(1, 1, true, 0)
	less(1, 99, false, api.ErrRef)
	less(99, 1, false, api.ErrRef)
}

func TestP11_3OfOnly(t *testing.T) {
	w := lay(t)
	get := narrowed(t, w, 1, api.Get)
	none := narrowed(t, w, 1, api.Put)
	for _, r := range []api.Ref{1, get, none} {
		if l, e := Of(w, r); !slices.Equal(l, []api.Ref{1, none, get}) || e != api.OK {
			t.Error(l, e)
		}
	}
	if l, e := Of(w, 99); l != nil || e != api.ErrRef {
		t.Error(l, e)
	}
	if l, e := Of(w, 2); !slices.Equal(l, []api.Ref{2}) || e != api.OK {
		t.Error(l, e)
	}
	v := list(ref(1), list(ref(2), ref(4)), num(1))
	got, e := Only(w, v, api.Get)
	cell, _ := Find(w, 2, api.Get)
	gate, _ := Find(w, 4, api.Get)
	if e != api.OK || !value.Same(got, list(ref(get), list(ref(cell), ref(gate)), num(1))) || gate != cell+1 || v.L[0].R != 1 {
		t.Error(got, e)
	}
	before := w.Copy()
	for i, c := range []struct {
		v   api.Value
		set api.Able
		e   api.Errno
	}{{ref(0), 1, api.ErrArg}, {ref(99), 64, api.ErrArg}, {list(ref(6), ref(99)), api.Get, api.ErrRef}} {
		if v, e := Only(w, c.v, c.set); !value.Same(v, api.Value{}) || e != c.e || !world.Same(w, before) {
			t.Error(i, v, e)
		}
	}
	if v, e := Only(w, num(1), 0); !value.Same(v, num(1)) || e != api.OK {
		t.Error(v, e)
	}
}

func TestP11_4NothingElse(t *testing.T) {
	w := lay(t)
	for w.Made(0) < api.MaxThings {
		w.Make(api.What{Kind: api.Cell})
	}
	before := w.Copy()
	for r := api.Ref(1); r <= 8; r++ {
		for set := api.Able(0); set < 64; set++ {
			if _, e := Narrow(w, r, set); e != api.OK {
				t.Fatal(r, set, e)
			}
		}
	}
	for r, kind := range w.Things() {
		x, _ := w.What(r)
		if y, e := before.What(r); e != api.OK && kind != api.Facet || e == api.OK && (x.Kind != y.Kind || x.Of != y.Of || x.Home != y.Home) {
			t.Error(r, kind)
		}
	}
}

func TestP11_5OneForm(t *testing.T) {
	w := lay(t)
	r := rand.New(rand.NewSource(1))
	for range 2000 {
		root := api.Ref(1 + r.Intn(8))
		x := narrowed(t, w, root, api.Able(r.Intn(64)))
		a, b := api.Able(r.Intn(64)), api.Able(r.Intn(64))
		ab := narrowed(t, w, narrowed(t, w, x, a), b)
		ba := narrowed(t, w, narrowed(t, w, x, b), a)
		stacked, _ := Stack(w, x, a, b)
		if ab != ba || ab != narrowed(t, w, x, a&b) || stacked != ab || w.Able(ab) != w.Able(x)&a&b {
			t.Error(x, a, b)
		}
		y := narrowed(t, w, root, b)
		m, e := Meet(w, x, y)
		n, f := Meet(w, y, x)
		if m != n || e != api.OK || f != api.OK || w.Able(m) != w.Able(x)&w.Able(y) {
			t.Error(x, y, m, n)
		}
		if narrowed(t, w, x, w.Able(x)) != x {
			t.Error(x)
		}
		if found, ok := Find(w, x, a&b); !ok || found != ab {
			t.Error(found, ok)
		}
	}
}

func TestP11_6Less(t *testing.T) {
	w := lay(t)
	var l []api.Ref
	for set := api.Able(0); set < 16; set++ {
		if f := narrowed(t, w, 6, set); !slices.Contains(l, f) {
			l = append(l, f)
		}
	}
	less := func(a, b api.Ref) bool { x, _ := Less(w, a, b); return x }
	for _, a := range l {
		for _, b := range l {
			m, _ := Meet(w, a, b)
			if !less(a, a) || less(a, b) && less(b, a) && a != b || !less(m, a) || !less(m, b) {
				t.Error(a, b)
			}
			for _, c := range l {
				if less(a, b) && less(b, c) && !less(a, c) || less(c, a) && less(c, b) && !less(c, m) {
					t.Error(a, b, c)
				}
			}
		}
	}
}

func TestP11_7Count(t *testing.T) {
	w := lay(t)
	for r, want := range map[api.Ref]int{1: 4, 2: 4, 4: 4, 6: 8, 7: 2, 8: 1} {
		for set := api.Able(0); set < 64; set++ {
			narrowed(t, w, r, set)
		}
		l, _ := Of(w, r)
		if len(l) != want || l[0] != r {
			t.Error(r, l)
		}
		for i := 2; i < len(l); i++ {
			if w.Able(l[i-1]) >= w.Able(l[i]) {
				t.Error("does not rise", l)
			}
		}
	}
}
