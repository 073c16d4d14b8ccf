package graph

import (
	"math/rand"
	"reflect"
	"slices"
	"strings"
	"testing"

	"postern/api"
	"postern/lang"
	"postern/pick"
	"postern/run"
	"postern/trace"
	"postern/value"
	"postern/world"
)

func ref(r api.Ref) api.Value       { return api.Value{Kind: api.Reference, R: r} }
func list(l ...api.Value) api.Value { return api.Value{Kind: api.List, L: l} }
func refs(l ...api.Ref) []api.Ref   { return l }
func sub(n int) api.Node            { return api.Node{Who: n} }
func is(r api.Ref) api.Node         { return api.Node{Is: true, Ref: r} }

// who makes a subject of code and of names, each a name and a value or a thing.
func who(t *testing.T, w *world.World, s string, l ...any) api.Subject {
	t.Helper()
	c, at, e := lang.Read(s)
	if e != api.OK {
		t.Fatal(s, at, e)
	}
	var names []api.Name
	for i := 0; i < len(l); i += 2 {
		v, ok := l[i+1].(api.Value)
		if !ok {
			v = ref(l[i+1].(api.Ref))
		}
		names = append(names, api.Name{Name: l[i].(string), Value: v})
	}
	x, e := run.New(w, 0, c, names)
	if e != api.OK {
		t.Fatal(s, e)
	}
	return x
}

// chapter is the world of the chapter's examples, and A and B.
func chapter(t *testing.T) (w *world.World, a, b api.Subject) {
	t.Helper()
	w, _ = world.New()
	for _, x := range []api.What{{Kind: api.Cell}, {Kind: api.Log, Values: []api.Value{ref(1)}}, {Kind: api.Sealer}, {Kind: api.Opener, Of: 3}, {Kind: api.Box, Of: 3, Value: list(ref(1))}} {
		w.Make(x)
	}
	w.Lay(1, api.What{Kind: api.Cell, Value: ref(2)})
	w.Facet(2, api.Get)
	w.Make(api.What{Kind: api.Switch})
	if r, e := w.Make(api.What{Kind: api.Gate, Of: 6, By: 7}); r != 8 || e != api.OK {
		t.Fatal(r, e)
	}
	return w, who(t, w, "", "c", api.Ref(1)), who(t, w, "", "b", api.Ref(5), "g", api.Ref(8))
}

func want(t *testing.T, got []api.Ref, e api.Errno, wanted []api.Ref, we api.Errno) {
	t.Helper()
	if !slices.Equal(got, wanted) || e != we || e != api.OK && got != nil {
		t.Error("got", got, e, "wanted", wanted, we)
	}
}

func TestErrors(t *testing.T) {
	w, a, _ := chapter(t)
	bad := a
	bad.Side = 9
	for _, z := range []*world.World{nil, {}} {
		_, e1 := Holds(z, bad)
		_, e2 := Lies(z, 0)
		_, e3 := Links(z, 0)
		_, e4 := From(z, 0)
		_, e5 := Reach(z, bad)
		_, _, e6 := Path(z, bad, 0)
		_, e7 := Parts(z, bad)
		_, e8 := Joined(z, is(0), sub(9), bad)
		_, e9 := Whose(z, 0, bad)
		for i, e := range []api.Errno{e1, e2, e3, e4, e5, e6, e7, e8, e9} {
			if e != api.ErrNil {
				t.Error(i, e)
			}
		}
	}
	_, e1 := Holds(w, bad)
	_, e2 := Reach(w, a, bad)
	_, _, e3 := Path(w, bad, 0)
	_, e4 := Parts(w, a, bad)
	_, e5 := Joined(w, is(0), sub(9), a, bad)
	_, e6 := Whose(w, 0, a, bad)
	for i, e := range []api.Errno{e1, e2, e3, e4, e5, e6} {
		if e != api.ErrSubject {
			t.Error(i, e)
		}
	}
}

func TestP22_1Holds(t *testing.T) {
	w, a, b := chapter(t)
	l, e := Holds(w, a)
	want(t, l, e, refs(1), 0)
	l, e = Holds(w, b)
	want(t, l, e, refs(5, 8), 0)
	l, e = Holds(w, who(t, w, "", "x", list(ref(8), ref(2), ref(8)), "y", api.Ref(1), "z", api.Value{}))
	want(t, l, e, refs(1, 2, 8), 0)
	for r, wanted := range map[api.Ref][]api.Ref{1: refs(2), 2: refs(1), 3: nil, 4: nil, 5: refs(1), 6: nil, 7: nil, 8: nil} {
		l, e := Lies(w, r)
		want(t, l, e, wanted, 0)
	}
	for r, wanted := range map[api.Ref][]api.Ref{1: nil, 2: nil, 3: nil, 4: nil, 5: nil, 6: refs(2), 7: nil, 8: refs(6, 7)} {
		l, e := Links(w, r)
		want(t, l, e, wanted, 0)
	}
	for _, x := range []api.What{{Kind: api.Tally}, {Kind: api.Tap, Of: 8, By: 9}, {Kind: api.Promise, Full: true, Value: list(ref(4), ref(3))}, {Kind: api.Keeper, Of: 11}, {Kind: api.Queue, Values: []api.Value{ref(5), list(ref(2), ref(5))}}, {Kind: api.Clerk, Names: []api.Name{{Name: "a", Value: ref(9)}, {Name: "b", Value: list(ref(1), ref(9))}}}} {
		w.Make(x)
	}
	for r, wanted := range map[api.Ref][2][]api.Ref{10: {nil, refs(8, 9)}, 11: {refs(3, 4), nil}, 12: {nil, refs(11)}, 13: {refs(2, 5), nil}, 14: {refs(1, 9), nil}} {
		l, e := Lies(w, r)
		want(t, l, e, wanted[0], 0)
		l, e = Links(w, r)
		want(t, l, e, wanted[1], 0)
	}
	for _, r := range refs(0, 99, -1) {
		l, e := Lies(w, r)
		want(t, l, e, nil, api.ErrRef)
		l, e = Links(w, r)
		want(t, l, e, nil, api.ErrRef)
	}
}

func TestP22_2Reach(t *testing.T) {
	w, a, b := chapter(t)
	l, e := Reach(w, a)
	want(t, l, e, refs(1, 2), 0)
	l, e = Reach(w, b)
	want(t, l, e, refs(1, 2, 5, 6, 7, 8), 0)
	l, e = Reach(w)
	want(t, l, e, nil, 0)
	l, e = From(w, 7)
	want(t, l, e, refs(7), 0)
	l, e = From(w, 7, 6, 7)
	want(t, l, e, refs(1, 2, 6, 7), 0)
	l, e = From(w)
	want(t, l, e, nil, 0)
	l, e = From(w, 1, 99)
	want(t, l, e, nil, api.ErrRef)
	if l, e := Whose(w, 1, a, b); !slices.Equal(l, []int{0, 1}) || e != api.OK {
		t.Error(l, e)
	}
	if l, e := Whose(w, 8, a, b, b); !slices.Equal(l, []int{1, 2}) || e != api.OK {
		t.Error(l, e)
	}
	if l, e := Whose(w, 4, a, b); l != nil || e != api.OK {
		t.Error(l, e)
	}
	if l, e := Whose(w, 99, a); l != nil || e != api.ErrRef {
		t.Error(l, e)
	}
}

func TestP22_3Path(t *testing.T) {
	w, a, b := chapter(t)
	for _, c := range []struct {
		s    api.Subject
		to   api.Ref
		want []api.Ref
		ok   bool
		e    api.Errno
	}{{b, 2, refs(5, 1, 2), true, 0}, {b, 8, refs(8), true, 0}, {b, 7, refs(8, 7), true, 0}, {a, 2, refs(1, 2), true, 0}, {a, 1, refs(1), true, 0}, {a, 5, nil, false, 0}, {a, 99, nil, false, api.ErrRef}} {
		if l, ok, e := Path(w, c.s, c.to); !slices.Equal(l, c.want) || ok != c.ok || e != c.e {
			t.Error(c.to, l, ok, e)
		}
	}
}

func TestP22_4Parts(t *testing.T) {
	w, a, b := chapter(t)
	things := []api.Node{is(1), is(2), is(3), is(4), is(5), is(6), is(7), is(8)}
	if l, e := Parts(w, a, b); e != api.OK || !reflect.DeepEqual(l, [][]api.Node{append([]api.Node{sub(0), sub(1)}, things...)}) {
		t.Error(l, e)
	}
	if l, e := Parts(w, a); e != api.OK || !reflect.DeepEqual(l, [][]api.Node{append([]api.Node{sub(0)}, things...)}) {
		t.Error(l, e)
	}
	if l, e := Parts(w); e != api.OK || !reflect.DeepEqual(l, [][]api.Node{things}) {
		t.Error(l, e)
	}
	v, _ := world.New()
	for _, x := range []api.What{{Kind: api.Cell}, {Kind: api.Mint}, {Kind: api.Log}, {Kind: api.Purse, Of: 2}, {Kind: api.Promise}, {Kind: api.Switch}, {Kind: api.Keeper, Of: 5}, {Kind: api.Sealer}, {Kind: api.Opener, Of: 8}, {Kind: api.Gate, Of: 1, By: 6}, {Kind: api.Switch}} {
		v.Make(x)
	}
	l, e := Parts(v, who(t, v, ""), who(t, v, "", "x", list(ref(5), ref(3))), who(t, v, "", "y", api.Ref(3)))
	if e != api.OK || !reflect.DeepEqual(l, [][]api.Node{{sub(0)}, {sub(1), sub(2), is(3), is(5), is(7)}, {is(1), is(6), is(10)}, {is(2), is(4)}, {is(8), is(9)}, {is(11)}}) {
		t.Error(l, e)
	}
	if l, e := Parts(func() *world.World { w, _ := world.New(); return w }()); len(l) != 0 || e != api.OK {
		t.Error(l, e)
	}
	for _, c := range []struct {
		a, b api.Node
		want bool
		e    api.Errno
	}{{sub(0), is(4), true, 0}, {is(4), sub(1), true, 0}, {sub(0), sub(0), true, 0}, {sub(2), is(1), false, api.ErrArg}, {is(99), sub(-1), false, api.ErrArg}, {is(99), is(1), false, api.ErrRef}, {is(1), is(0), false, api.ErrRef}, {api.Node{Who: 1, Ref: 1}, is(1), false, api.ErrArg}, {is(1), api.Node{Is: true, Who: 1, Ref: 1}, false, api.ErrArg}} {
		if got, e := Joined(w, c.a, c.b, a, b); got != c.want || e != c.e {
			t.Error(c, got, e)
		}
	}
	for _, c := range []struct {
		a, b api.Node
		want bool
	}{{is(2), is(4), true}, {is(8), is(9), true}, {is(5), is(7), true}, {is(6), is(1), true}, {is(1), is(2), false}, {sub(0), is(1), false}} {
		if got, e := Joined(v, c.a, c.b, who(t, v, "")); got != c.want || e != api.OK {
			t.Error(c, got, e)
		}
	}
}

// random makes a Play whose subjects hand things on.
func random(t *testing.T, r *rand.Rand) *pick.Play {
	t.Helper()
	w, _ := world.New(0)
	for _, x := range []api.What{{Kind: api.Cell}, {Kind: api.Queue}, {Kind: api.Promise}, {Kind: api.Keeper, Of: 3}, {Kind: api.Log}, {Kind: api.Sealer}, {Kind: api.Opener, Of: 6}, {Kind: api.Cell, Value: list(ref(1), ref(5))}, {Kind: api.Mint}, {Kind: api.Purse, Of: 9}} {
		w.Make(x)
	}
	w.Facet(1, api.Get)
	texts := []string{"x = get a", "x = put a b", "x = give a [ x b ]", "y = take a 1", "z = part y 0", "x = give b a", "l = make log", "x = give l b", "b = get l", "g h = make gate a", "f = make facet b get", "x = ask a b", "s o = make seal", "x = ask o x", "x = ask s b", "m = make mint", "a = ask m 5", "n = make cell [ a b ]",
		"d = make clerk [ a b ] { x = get a ; y = put b it ; reply [ x it b ] }", "x = ask d x", "t u = make tap a", "p k = make promise", "x = give k a"}
	var l []api.Subject
	for range 4 {
		var c []string
		for range 10 {
			c = append(c, texts[r.Intn(len(texts))])
		}
		l = append(l, who(t, w, strings.Join(c, " ; "), "a", api.Ref(1+r.Intn(11)), "b", api.Ref(1+r.Intn(11))))
	}
	p, e := pick.New(w, l...)
	if e != api.OK {
		t.Fatal(e)
	}
	return p
}

func TestP22_5Reach(t *testing.T) {
	r := rand.New(rand.NewSource(1))
	for range 40 {
		p := random(t, r)
		p.Rounds(r.Intn(30))
		w, l := p.World(), p.Subjects()
		step := func(a, b api.Ref) bool {
			lies, _ := Lies(w, a)
			links, _ := Links(w, a)
			return slices.Contains(lies, b) || slices.Contains(links, b)
		}
		all, _ := Reach(w, l...)
		var together []api.Ref
		for i, s := range l {
			mine, _ := Reach(w, s)
			together = append(together, mine...)
			if again, _ := From(w, mine...); !slices.Equal(again, mine) {
				t.Error("from of from")
			}
			for to := range w.Things() {
				path, ok, _ := Path(w, s, to)
				whose, _ := Whose(w, to, l...)
				if ok != slices.Contains(mine, to) || ok != slices.Contains(whose, i) {
					t.Error(to, ok)
				}
				if joined, _ := Joined(w, sub(i), is(to), l...); ok && !joined {
					t.Error("reached, and not joined", to)
				}
				if !ok {
					continue
				}
				held, _ := Holds(w, s)
				if !slices.Contains(held, path[0]) || path[len(path)-1] != to {
					t.Error(path)
				}
				for i := 1; i < len(path); i++ {
					if !step(path[i-1], path[i]) {
						t.Error("no step", path)
					}
				}
				if short := shortest(held, step, w, to); !slices.Equal(short, path) {
					t.Error(short, path)
				}
			}
		}
		if !slices.Equal(once(together), all) {
			t.Error(together, all)
		}
		a, b := api.Ref(1+r.Intn(w.Len())), api.Ref(1+r.Intn(w.Len()))
		few, _ := From(w, a)
		more, _ := From(w, a, b)
		for _, x := range few {
			if !slices.Contains(more, x) {
				t.Error("more is less")
			}
		}
	}
}

// shortest finds the first of the shortest ways by going on from all ways of a length.
func shortest(held []api.Ref, step func(a, b api.Ref) bool, w *world.World, to api.Ref) []api.Ref {
	best := map[api.Ref][]api.Ref{}
	for _, r := range held {
		best[r] = refs(r)
	}
	for best[to] == nil {
		next := map[api.Ref][]api.Ref{}
		for a, path := range best {
			for b := range w.Things() {
				if longer := append(slices.Clone(path), b); best[b] == nil && step(a, b) && (next[b] == nil || slices.Compare(longer, next[b]) < 0) {
					next[b] = longer
				}
			}
		}
		for b, path := range next {
			best[b] = path
		}
		for a := range best {
			if len(best[a]) < len(best[to]) {
				delete(next, a)
			}
		}
	}
	return best[to]
}

func TestP22_6Turns(t *testing.T) {
	r := rand.New(rand.NewSource(2))
	for range 60 {
		p := random(t, r)
		for range 30 {
			before, l := p.World(), p.Subjects()
			was, _ := Parts(before, l...)
			if _, told, _ := p.Turn(api.Turn{Who: r.Intn(4)}); !told {
				continue
			}
			now, subjects := p.World(), p.Subjects()
			for i, s := range subjects {
				held, _ := Holds(now, s)
				for _, x := range held {
					if joined, _ := Joined(before, sub(i), is(x), l...); before.Is(x) && !joined {
						t.Fatal("out of another part", x)
					}
				}
			}
			for i, a := range was {
				for _, b := range was[:i] {
					if joined, _ := Joined(now, a[0], b[0], subjects...); joined {
						t.Fatal("parts came together", a, b)
					}
				}
			}
		}
	}
}

// TestP21_7 is here, as layer 21 stands below: all places of a chain are joined.
func TestP21_7Joined(t *testing.T) {
	r := rand.New(rand.NewSource(3))
	for range 30 {
		p := random(t, r)
		p.Rounds(40)
		x, _ := trace.Of(p)
		w, l := p.World(), p.Subjects()
		// Each holder with all that it has had: clerks by names of their own, subjects likewise.
		for i := range l {
			had, _ := x.Had(sub(i))
			l[i].Names = []api.Name{{Name: "all", Value: all(had)}}
			l[i].Seen = once(slices.Concat(l[i].Seen, had))
		}
		for k, kind := range w.Things() {
			if kind == api.Clerk {
				y, _ := w.What(k)
				had, _ := x.Had(is(k))
				y.Names = []api.Name{{Name: "all", Value: all(had)}}
				w.Lay(k, y)
			}
		}
		for c := range x.Comings() {
			chain, _ := x.Why(c.To, c.Ref)
			for _, y := range chain {
				if joined, e := Joined(w, y.To, c.To, l...); !joined || e != api.OK {
					t.Fatal("not joined", y, c, e)
				}
			}
		}
	}
}

func all(l []api.Ref) api.Value {
	v := list()
	for _, r := range l {
		v.L = append(v.L, ref(r))
	}
	v, _ = value.Own(v)
	return v
}
