package act

import (
	"errors"
	"math"
	"math/rand"
	"reflect"
	"runtime"
	"slices"
	"testing"

	"postern/api"
	"postern/value"
	"postern/world"
)

func num(n int64) api.Value         { return api.Value{Kind: api.Number, N: n} }
func text(s string) api.Value       { return api.Value{Kind: api.Text, S: s} }
func ref(r api.Ref) api.Value       { return api.Value{Kind: api.Reference, R: r} }
func list(l ...api.Value) api.Value { return api.Value{Kind: api.List, L: l} }

var none = api.Value{}

// make1 makes something on a side, or ends the test.
func make1(t *testing.T, w *world.World, home api.Side, x api.Making) []api.Ref {
	t.Helper()
	l, e := Make(w, home, x)
	if e != api.OK {
		t.Fatal(x, e)
	}
	return l
}

// code tells the Code of an act's error, 0 of none; and that it is a fault.
func code(t *testing.T, err error) api.Errno {
	t.Helper()
	if err == nil {
		return api.OK
	}
	var f api.Fault
	if !errors.As(err, &f) {
		t.Error("no fault", err)
		return -1
	}
	return f.Code()
}

// does holds an act's answer against what is wanted.
func does(t *testing.T, w *world.World, from api.Side, r api.Ref, by api.Able, v, want api.Value, we api.Errno) {
	t.Helper()
	before := w.Copy()
	got, err := Do(w, from, r, by, v, nil)
	if c := code(t, err); c != we || !value.Same(got, want) {
		t.Error("got", got, c, "wanted", want, we)
	}
	if err != nil && !world.Same(w, before) {
		t.Error("a fault that changed something")
	}
}

// chapter is the world of the chapter's examples: a cell, a mint, a purse, a gate and its switch, a tap and its tally.
type chapter struct {
	w                   *world.World
	c, m, p, g, s, q, n api.Ref
}

func lay(t *testing.T, parents ...api.Side) chapter {
	t.Helper()
	w, _ := world.New(parents...)
	x := chapter{w: w}
	x.c = make1(t, w, 0, api.Making{Kind: api.Cell, Value: num(1)})[0]
	x.m = make1(t, w, 0, api.Making{Kind: api.Mint})[0]
	v, err := Do(w, 0, x.m, api.Ask, num(5), nil)
	if err != nil {
		t.Fatal(err)
	}
	x.p = v.R
	l := make1(t, w, 0, api.Making{Kind: api.Gate, Of: x.c})
	x.g, x.s = l[0], l[1]
	l = make1(t, w, 0, api.Making{Kind: api.Tap, Of: x.c})
	x.q, x.n = l[0], l[1]
	return x
}

func TestNilWorlds(t *testing.T) {
	for _, w := range []*world.World{nil, {}} {
		_, e1 := Do(w, 0, 1, 64, ref(0), nil)
		_, at, e2 := All(w, 0, nil, nil)
		_, e3 := Outright(w, 9, 0, 0, ref(0), nil)
		for i, err := range []error{e1, e2, e3, Whole(w, nil)} {
			if c := code(t, err); c != api.ErrNil || at != 0 {
				t.Error(i, err)
			}
		}
		_, e4 := Make(w, 9, api.Making{})
		th, e5 := Thing(w, 9, 0)
		if e4 != api.ErrNil || e5 != api.ErrNil || th != nil || Why(w, 9, 0, 0, ref(0)) != api.ErrNil {
			t.Error(e4, e5)
		}
	}
}

func TestP14_1Bases(t *testing.T) {
	x := lay(t)
	w := x.w
	for _, r := range []api.Ref{x.c, x.g, x.q} {
		does(t, w, 0, r, api.Get, none, num(1), 0)
	}
	does(t, w, 0, x.n, api.Get, none, num(1), 0)
	does(t, w, 0, x.c, api.Put, list(ref(x.c)), none, 0)
	does(t, w, 0, x.q, api.Get, none, list(ref(x.c)), 0)
	does(t, w, 0, x.s, api.Get, none, num(0), 0)
	does(t, w, 0, x.s, api.Cut, none, none, 0)
	does(t, w, 0, x.s, api.Get, none, num(1), 0)
	does(t, w, 0, x.g, api.Get, none, none, api.ErrCut)
	if e := Why(w, 0, x.g, api.Get, none); e != api.ErrCut {
		t.Error(e)
	}
	does(t, w, 0, x.c, api.Get, none, list(ref(x.c)), 0)
	l := make1(t, w, 0, api.Making{Kind: api.Sealer})
	does(t, w, 0, l[0], api.Ask, num(7), ref(l[1]+1), 0)
	does(t, w, 0, l[1], api.Ask, ref(l[1]+1), num(7), 0)
	does(t, w, 0, l[1], api.Ask, ref(x.c), none, api.ErrBox)
	p := make1(t, w, 0, api.Making{Kind: api.Promise})
	does(t, w, 0, p[0], api.Get, none, none, api.ErrOpen)
	does(t, w, 0, p[1], api.Give, num(3), none, 0)
	does(t, w, 0, p[0], api.Get, none, num(3), 0)
	does(t, w, 0, p[1], api.Give, num(3), none, api.ErrDone)
	q := make1(t, w, 0, api.Making{Kind: api.Queue})[0]
	does(t, w, 0, q, api.Give, num(3), none, 0)
	does(t, w, 0, q, api.Take, num(2), none, api.ErrShort)
	does(t, w, 0, q, api.Take, text("x"), none, api.ErrArg)
	does(t, w, 0, q, api.Take, num(1), list(num(3)), 0)
	log := make1(t, w, 0, api.Making{Kind: api.Log})[0]
	does(t, w, 0, log, api.Give, num(3), none, 0)
	does(t, w, 0, log, api.Get, none, list(num(3)), 0)
	tally := make1(t, w, 0, api.Making{Kind: api.Tally})[0]
	does(t, w, 0, tally, api.Give, num(-1), none, api.ErrArg)
	does(t, w, 0, tally, api.Give, num(api.MaxMoney), none, 0)
	does(t, w, 0, tally, api.Give, num(1), none, api.ErrLimit)
}

func TestP14_1Money(t *testing.T) {
	x := lay(t)
	w := x.w
	does(t, w, 0, x.p, api.Get, none, num(5), 0)
	does(t, w, 0, x.m, api.Ask, num(-1), none, api.ErrArg)
	does(t, w, 0, x.m, api.Ask, none, none, api.ErrArg)
	does(t, w, 0, x.m, api.Ask, num(math.MaxInt64), none, api.ErrLimit)
	last := w.Tell().Last
	does(t, w, 0, x.p, api.Take, num(2), ref(last+1), 0)
	does(t, w, 0, x.p, api.Take, num(4), none, api.ErrShort)
	does(t, w, 0, x.p, api.Take, num(-4), none, api.ErrArg)
	does(t, w, 0, x.p, api.Take, text("2"), none, api.ErrArg)
	q := last + 1
	get := make1(t, w, 0, api.Making{Kind: api.Facet, Of: q, Set: api.Get | api.Give})[0]
	take := make1(t, w, 0, api.Making{Kind: api.Facet, Of: q, Set: api.Take})[0]
	m2 := make1(t, w, 0, api.Making{Kind: api.Mint})[0]
	other, _ := Do(w, 0, m2, api.Ask, num(1), nil)
	for _, v := range []api.Value{none, num(1), ref(x.p), ref(x.c), ref(x.m), ref(get), other, list(ref(q))} {
		does(t, w, 0, x.p, api.Give, v, none, api.ErrPurse)
	}
	gate := make1(t, w, 0, api.Making{Kind: api.Gate, Of: take})
	tap := make1(t, w, 0, api.Making{Kind: api.Tap, Of: gate[0]})
	mine := make1(t, w, 0, api.Making{Kind: api.Tap, Of: x.p})
	does(t, w, 0, mine[0], api.Give, ref(tap[0]), none, 0)
	does(t, w, 0, x.p, api.Get, none, num(5), 0)
	does(t, w, 0, q, api.Get, none, num(0), 0)
	does(t, w, 0, tap[1], api.Get, none, num(1), 0)
	does(t, w, 0, mine[1], api.Get, none, num(1), 0)
	does(t, w, 0, gate[1], api.Cut, none, none, 0)
	does(t, w, 0, mine[0], api.Give, ref(tap[0]), none, api.ErrCut)
	for _, r := range []api.Ref{x.p, q} {
		y, _ := w.What(r)
		y.N = api.MaxMoney
		w.Lay(r, y)
	}
	does(t, w, 0, x.p, api.Give, ref(q), none, api.ErrLimit)
}

func TestP14_1Order(t *testing.T) {
	x := lay(t, 0)
	w := x.w
	does(t, w, 0, x.c, api.Take, num(1), none, api.ErrUnable)
	does(t, w, 0, 99, api.Get, none, none, api.ErrRef)
	does(t, w, 0, x.c, api.Get|api.Put, none, none, api.ErrArg)
	does(t, w, 0, x.c, api.Get, num(1), none, api.ErrArg)
	does(t, w, 0, x.s, api.Cut, num(1), none, api.ErrArg)
	does(t, w, 2, x.c, api.Get, none, none, api.ErrArg)
	does(t, w, -1, 99, api.Take, none, none, api.ErrArg)
	does(t, w, 0, 99, 64, none, none, api.ErrArg)
	does(t, w, 0, 99, api.Put, ref(0), none, api.ErrArg)
	does(t, w, 0, x.c, api.Put, ref(99), none, api.ErrRef)
	does(t, w, 0, x.c, api.Give, ref(99), none, api.ErrRef)
	w.CutEdge(1)
	does(t, w, 1, x.c, api.Get, none, none, api.ErrCut)
	does(t, w, 1, x.c, api.Give, none, none, api.ErrUnable)
	does(t, w, 1, x.p, api.Take, num(99), none, api.ErrCut)
	does(t, w, 0, x.c, api.Get, none, num(1), 0)
	far := make1(t, w, 1, api.Making{Kind: api.Tap, Of: x.p})[0]
	p2, _ := Do(w, 0, x.p, api.Take, num(1), nil)
	does(t, w, 0, p2.R, api.Give, ref(far), none, api.ErrCut)
	does(t, w, 0, p2.R, api.Give, ref(x.p), none, 0)
}

func TestP14_3Why(t *testing.T) {
	x := lay(t, 0)
	w := x.w
	w.CutEdge(1)
	before := w.Copy()
	for i, c := range []struct {
		from api.Side
		r    api.Ref
		by   api.Able
		v    api.Value
		e    api.Errno
	}{
		{1, x.c, api.Get, none, api.ErrCut}, {1, x.c, api.Give, none, api.ErrUnable}, {0, 99, api.Get, none, api.ErrRef}, {0, x.c, api.Put, ref(99), api.ErrRef}, {0, x.c, 0, none, api.ErrArg}, {2, 99, api.Get, none, api.ErrArg}, {0, x.c, api.Get, num(1), api.ErrArg}, {0, x.c, api.Put, ref(0), api.ErrArg},
		// What the base would say is not asked.
		{0, x.p, api.Take, text("x"), 0}, {0, x.p, api.Take, num(99), 0}, {0, x.p, api.Give, none, 0}, {0, x.q, api.Put, num(2), 0}, {0, x.s, api.Cut, none, 0},
	} {
		if e := Why(w, c.from, c.r, c.by, c.v); e != c.e {
			t.Error(i, e)
		}
	}
	if !world.Same(w, before) {
		t.Error("something was done")
	}
}

// clerk makes a thing that is asked, and a tap before it.
func clerk(t *testing.T, w *world.World) (k, tap, tally api.Ref) {
	t.Helper()
	k, e := w.Make(api.What{Kind: api.Clerk})
	if e != api.OK {
		t.Fatal(e)
	}
	l := make1(t, w, 0, api.Making{Kind: api.Tap, Of: k})
	return k, l[0], l[1]
}

func TestP14_1Clerks(t *testing.T) {
	x := lay(t)
	w := x.w
	k, tap, tally := clerk(t, w)
	does(t, w, 0, k, api.Ask, none, none, api.ErrState)
	calls := 0
	answer := func(in *world.World, r api.Ref, v api.Value) (api.Value, error) {
		calls++
		if in != w || r != k || !value.Same(v, list(num(4))) {
			t.Error(r, v)
		}
		// The tap has not counted this act yet.
		if n, err := Do(w, 0, tally, api.Get, none, nil); err != nil || n.N != 0 {
			t.Error(n, err)
		}
		v.L[0] = num(9)
		return num(7), nil
	}
	arg := list(num(4))
	if v, err := Do(w, 0, tap, api.Ask, arg, answer); err != nil || !value.Same(v, num(7)) || calls != 1 || arg.L[0].N != 4 {
		t.Error(v, err, calls)
	}
	does(t, w, 0, tally, api.Get, none, num(1), 0)
	before := w.Copy()
	own := errors.New("own")
	for _, e := range []error{api.ErrRef, own} {
		v, err := Do(w, 0, tap, api.Ask, none, func(w *world.World, r api.Ref, v api.Value) (api.Value, error) {
			w.CutEdge(1)
			make1(t, w, 0, api.Making{Kind: api.Log})
			Do(w, 0, x.c, api.Put, num(99), nil)
			Do(w, 0, x.q, api.Get, none, nil)
			return num(8), e
		})
		var f api.Fault
		if !errors.As(err, &f) || f.Code() != api.ErrClerk || !slices.Equal(f.Unwrap(), []error{api.ErrClerk, e}) || !errors.Is(err, e) || !value.Same(v, none) {
			t.Error(v, err)
		}
		if !world.Same(w, before) {
			t.Error("something stayed")
		}
	}
	func() {
		defer func() {
			if met := recover(); met != "x" || !world.Same(w, before) {
				t.Error(met)
			}
		}()
		Do(w, 0, tap, api.Ask, none, func(w *world.World, r api.Ref, v api.Value) (api.Value, error) {
			Do(w, 0, x.c, api.Put, num(99), nil)
			panic("x")
		})
	}()
	if _, err := Do(w, 0, 99, api.Ask, none, func(*world.World, api.Ref, api.Value) (api.Value, error) { panic("asked") }); code(t, err) != api.ErrRef {
		t.Error(err)
	}
}

func TestP14_2AllWhole(t *testing.T) {
	x := lay(t)
	w := x.w
	before := w.Copy()
	l, at, err := All(w, 0, []api.Wanted{{On: x.c, By: api.Put, With: num(2)}, {On: x.p, By: api.Take, With: num(9)}, {On: 99}}, nil)
	if code(t, err) != api.ErrShort || at != 1 || l != nil || !world.Same(w, before) {
		t.Error(l, at, err)
	}
	l, at, err = All(w, 0, []api.Wanted{{On: x.c, By: api.Put, With: num(2)}, {On: x.q, By: api.Get}, {On: x.n, By: api.Get}}, nil)
	if err != nil || at != 3 || !reflect.DeepEqual(l, []api.Value{none, num(2), num(1)}) {
		t.Error(l, at, err)
	}
	if l, at, err := All(w, 9, nil, nil); len(l) != 0 || at != 0 || err != nil {
		t.Error(l, at, err)
	}
	k, _, _ := clerk(t, w)
	if l, _, err := All(w, 0, []api.Wanted{{On: k, By: api.Ask}}, func(*world.World, api.Ref, api.Value) (api.Value, error) { return num(6), nil }); err != nil || l[0].N != 6 {
		t.Error(l, err)
	}
	if err := Whole(w, nil); code(t, err) != api.ErrArg {
		t.Error(err)
	}
	calls, own := 0, errors.New("own")
	before = w.Copy()
	turn := func() error { calls++; _, err := Do(w, 0, x.c, api.Put, num(int64(50+calls)), nil); return err }
	if err := Whole(w, func() error { turn(); return own }); err != own || calls != 1 || !world.Same(w, before) {
		t.Error(err, calls)
	}
	if err := Whole(w, turn); err != nil || calls != 2 {
		t.Error(err, calls)
	}
	does(t, w, 0, x.c, api.Get, none, num(52), 0)
	before = w.Copy()
	err = Whole(w, func() error {
		turn()
		if err := Whole(w, func() error { turn(); return own }); err != own {
			t.Error(err)
		}
		does(t, w, 0, x.c, api.Get, none, num(53), 0)
		return nil
	})
	if err != nil {
		t.Error(err)
	}
	does(t, w, 0, x.c, api.Get, none, num(53), 0)
	before = w.Copy()
	func() {
		defer func() {
			if met := recover(); met != own || !world.Same(w, before) {
				t.Error(met)
			}
		}()
		Whole(w, func() error { turn(); panic(own) })
	}()
}

func TestP14_4Make(t *testing.T) {
	x := lay(t, 0)
	w := x.w
	for _, c := range []struct {
		x     api.Making
		kinds []api.Kind
	}{{api.Making{Kind: api.Cell, Value: ref(x.c)}, []api.Kind{api.Cell}}, {api.Making{Kind: api.Log}, []api.Kind{api.Log}}, {api.Making{Kind: api.Tally}, []api.Kind{api.Tally}}, {api.Making{Kind: api.Queue}, []api.Kind{api.Queue}},
		{api.Making{Kind: api.Mint}, []api.Kind{api.Mint}}, {api.Making{Kind: api.Sealer}, []api.Kind{api.Sealer, api.Opener}}, {api.Making{Kind: api.Promise}, []api.Kind{api.Promise, api.Keeper}},
		{api.Making{Kind: api.Facet, Of: x.p, Set: api.Get | api.Ask}, []api.Kind{api.Facet}}, {api.Making{Kind: api.Gate, Of: x.g}, []api.Kind{api.Gate, api.Switch}}, {api.Making{Kind: api.Tap, Of: x.q}, []api.Kind{api.Tap, api.Tally}}} {
		l, e := Make(w, 1, c.x)
		if e != api.OK || len(l) != len(c.kinds) {
			t.Fatal(c, l, e)
		}
		for i, r := range l {
			if home, ok := w.Home(r); w.Kind(r) != c.kinds[i] || ok && home != 1 {
				t.Error(c, i, w.Kind(r))
			}
		}
	}
	if l := make1(t, w, 0, api.Making{Kind: api.Facet, Of: x.p, Set: api.All}); l[0] != x.p {
		t.Error("narrowed to all", l)
	}
	before := w.Copy()
	v := num(0)
	for i, c := range []struct {
		home api.Side
		x    api.Making
		e    api.Errno
	}{{0, api.Making{}, api.ErrArg}, {0, api.Making{Kind: api.Box}, api.ErrArg}, {0, api.Making{Kind: api.Clerk}, api.ErrArg}, {0, api.Making{Kind: api.Purse}, api.ErrArg}, {0, api.Making{Kind: api.Opener}, api.ErrArg}, {0, api.Making{Kind: api.Keeper}, api.ErrArg},
		{0, api.Making{Kind: api.Switch}, api.ErrArg}, {0, api.Making{Kind: 17}, api.ErrArg}, {0, api.Making{Kind: api.Cell, Set: 1}, api.ErrArg}, {0, api.Making{Kind: api.Cell, Of: 1}, api.ErrArg}, {0, api.Making{Kind: api.Log, Value: v}, api.ErrArg},
		{0, api.Making{Kind: api.Mint, Of: 1}, api.ErrArg}, {0, api.Making{Kind: api.Gate, Of: 1, Set: 1}, api.ErrArg}, {0, api.Making{Kind: api.Tap, Of: 1, Value: v}, api.ErrArg}, {0, api.Making{Kind: api.Facet, Of: 1, Set: 64}, api.ErrArg},
		{0, api.Making{Kind: api.Facet, Of: 99, Set: 64}, api.ErrArg}, {0, api.Making{Kind: api.Facet, Of: 1, Value: v}, api.ErrArg}, {0, api.Making{Kind: api.Cell, Value: ref(0)}, api.ErrArg}, {0, api.Making{Kind: api.Log, Value: api.Value{N: 1}}, api.ErrArg},
		{2, api.Making{Kind: api.Log}, api.ErrArg}, {-1, api.Making{Kind: api.Facet, Of: x.p}, api.ErrArg}, {2, api.Making{Kind: api.Gate, Of: 99}, api.ErrArg}, {0, api.Making{Kind: api.Gate}, api.ErrRef}, {0, api.Making{Kind: api.Facet, Of: 99}, api.ErrRef},
		{0, api.Making{Kind: api.Tap, Of: -1}, api.ErrRef}, {0, api.Making{Kind: api.Cell, Value: list(ref(99))}, api.ErrRef}} {
		if l, e := Make(w, c.home, c.x); l != nil || e != c.e || !world.Same(w, before) {
			t.Error(i, l, e)
		}
	}
	for w.Made(1) < api.MaxThings-1 {
		make1(t, w, 1, api.Making{Kind: api.Log})
	}
	before = w.Copy()
	for _, x := range []api.Making{{Kind: api.Sealer}, {Kind: api.Promise}, {Kind: api.Gate, Of: 1}, {Kind: api.Tap, Of: 1}} {
		if l, e := Make(w, 1, x); l != nil || e != api.ErrLimit || !world.Same(w, before) {
			t.Error(x, l, e)
		}
	}
	make1(t, w, 1, api.Making{Kind: api.Mint})
	if _, e := Make(w, 1, api.Making{Kind: api.Cell}); e != api.ErrLimit {
		t.Error(e)
	}
	make1(t, w, 1, api.Making{Kind: api.Facet, Of: x.c, Set: api.None})
}

func TestP14_5Thing(t *testing.T) {
	x := lay(t, 0)
	w := x.w
	for _, c := range []struct {
		from api.Side
		r    api.Ref
		e    api.Errno
	}{{2, 99, api.ErrArg}, {-1, x.c, api.ErrArg}, {0, 99, api.ErrRef}, {0, 0, api.ErrRef}} {
		if th, e := Thing(w, c.from, c.r); th != nil || e != c.e {
			t.Error(c, th, e)
		}
	}
	a, _ := Thing(w, 0, x.c)
	b, _ := Thing(w, 0, x.c)
	far, _ := Thing(w, 1, x.c)
	copied, _ := Thing(w.Copy(), 0, x.c)
	other, _ := Thing(w, 0, x.g)
	if a != b || a == far || a == copied || a == other || a.Ref() != x.c {
		t.Error("equal")
	}
	if _, ok := a.(api.Taker); ok {
		t.Error("a taker")
	}
	if err := a.(api.Putter).Put(num(6)); err != nil {
		t.Error(err)
	}
	if v, err := b.(api.Getter).Get(); err != nil || v.N != 6 {
		t.Error(v, err)
	}
	if err := a.(api.Putter).Put(ref(0)); err != api.ErrArg {
		t.Error(err)
	}
	if err := a.(api.Putter).Put(ref(99)); code(t, err) != api.ErrRef {
		t.Error(err)
	}
	p, _ := Thing(w, 0, x.p)
	if v, err := p.(api.Taker).Take(2); err != nil || v.Kind != api.Reference {
		t.Error(v, err)
	}
	if v, err := p.(api.Taker).Take(4); code(t, err) != api.ErrShort || v.Kind != api.Nothing {
		t.Error(v, err)
	}
	w.CutEdge(1)
	if _, err := far.(api.Getter).Get(); code(t, err) != api.ErrCut {
		t.Error("it goes on with its world", err)
	}
	s, _ := Thing(w, 0, x.s)
	if err := s.(api.Cutter).Cut(); err != nil {
		t.Error(err)
	}
	k, _, _ := clerk(t, w)
	ask, _ := Thing(w, 0, k)
	if _, err := ask.(api.Asker).Ask(num(1)); code(t, err) != api.ErrState {
		t.Error(err)
	}
}

func TestP14_6Outright(t *testing.T) {
	x := lay(t)
	w := x.w
	if v, err := Outright(w, 0, x.c, api.Get, none, nil); err != nil || v.N != 1 {
		t.Error(v, err)
	}
	v, err := Outright(w, 0, x.c, api.Take, num(1), nil)
	var found runtime.Error
	if code(t, err) != api.ErrPanic || !errors.As(err, &found) || v.Kind != api.Nothing {
		t.Error(v, err)
	}
	for i, c := range []struct {
		from api.Side
		r    api.Ref
		by   api.Able
		v    api.Value
		e    api.Errno
	}{{1, 99, api.Get, none, api.ErrArg}, {0, 99, 3, none, api.ErrArg}, {0, 99, 64, none, api.ErrArg}, {0, 99, api.Get, none, api.ErrRef}, {0, x.c, api.Take, ref(0), api.ErrPanic}, {0, x.c, api.Put, ref(0), api.ErrArg}, {0, x.c, api.Put, ref(99), api.ErrRef}, {0, x.c, api.Get, num(1), api.ErrArg}} {
		if v, err := Outright(w, c.from, c.r, c.by, c.v, nil); code(t, err) != c.e || v.Kind != api.Nothing {
			t.Error(i, v, err)
		}
	}
	k, _, _ := clerk(t, w)
	if v, err := Outright(w, 0, k, api.Ask, none, func(*world.World, api.Ref, api.Value) (api.Value, error) { return num(8), nil }); err != nil || v.N != 8 {
		t.Error(v, err)
	}
}

// random makes a world with all kinds of things on two sides, some before others.
func random(r *rand.Rand) *world.World {
	w, _ := world.New(0)
	for range 25 {
		x := api.Making{Kind: api.Kind(1 + r.Intn(16)), Of: api.Ref(1 + r.Intn(w.Len()+1))}
		switch x.Kind {
		case api.Facet:
			x.Set = api.Able(r.Intn(64))
		case api.Clerk:
			w.Make(api.What{Kind: api.Clerk})
		case api.Gate, api.Tap:
		default:
			x.Of = 0
		}
		Make(w, api.Side(r.Intn(2)), x)
	}
	return w
}

func TestP14_7Whole(t *testing.T) {
	r := rand.New(rand.NewSource(1))
	for range 40 {
		w := random(r)
		var ask Answer
		ask = func(w *world.World, k api.Ref, v api.Value) (api.Value, error) {
			for range 3 {
				if _, err := wild(r, w, ask); err != nil {
					return none, err
				}
			}
			return num(1), nil
		}
		for range 100 {
			before := w.Copy()
			if _, err := wild(r, w, ask); err != nil && !world.Same(w, before) {
				t.Fatal("a fault that changed something", err)
			}
		}
	}
}

// wild does an act by chance.
func wild(r *rand.Rand, w *world.World, ask Answer) (api.Value, error) {
	v := []api.Value{none, num(int64(r.Intn(3))), ref(api.Ref(1 + r.Intn(w.Len()))), ref(api.Ref(1 + r.Intn(w.Len()))), text("a")}[r.Intn(5)]
	by := api.Able(1 << r.Intn(6))
	if by == api.Get || by == api.Cut {
		v = none
	}
	return Do(w, api.Side(r.Intn(2)), api.Ref(1+r.Intn(w.Len())), by, v, ask)
}

func TestP14_8Through(t *testing.T) {
	r := rand.New(rand.NewSource(2))
	for range 400 {
		w := random(r)
		q := api.Ref(1 + r.Intn(w.Len()))
		base := w.Base(q)
		by := api.Able(1 << r.Intn(6))
		v := []api.Value{none, num(1)}[r.Intn(2)]
		if w.Able(q)&by == 0 {
			continue
		}
		through, right := w.Copy(), w.Copy()
		a, err1 := Do(through, 0, q, by, v, nil)
		b, err2 := Do(right, 0, base, by, v, nil)
		if !value.Same(a, b) || code(t, err1) != code(t, err2) {
			t.Error(a, err1, b, err2)
		}
		if err1 != nil {
			continue
		}
		for _, on := range w.Way(q) {
			if x, _ := right.What(on); x.Kind == api.Tap {
				n, _ := right.What(x.By)
				n.N++
				right.Lay(x.By, n)
			}
		}
		if !world.Same(through, right) {
			t.Error("does something else", q, by)
		}
	}
}

func TestP14_9Exact(t *testing.T) {
	r := rand.New(rand.NewSource(3))
	for range 20 {
		w := random(r)
		for q := range w.Things() {
			th, _ := Thing(w, 0, q)
			can := api.None
			for able, is := range map[api.Able]func() bool{
				api.Get: func() bool { _, ok := th.(api.Getter); return ok }, api.Put: func() bool { _, ok := th.(api.Putter); return ok }, api.Take: func() bool { _, ok := th.(api.Taker); return ok },
				api.Give: func() bool { _, ok := th.(api.Giver); return ok }, api.Ask: func() bool { _, ok := th.(api.Asker); return ok }, api.Cut: func() bool { _, ok := th.(api.Cutter); return ok }} {
				if is() {
					can |= able
				}
				_, err := Outright(w.Copy(), 0, q, able, none, nil)
				if (code(t, err) == api.ErrPanic) != (w.Able(q)&able == 0) {
					t.Error(q, able, err)
				}
			}
			if can != w.Able(q) {
				t.Error(q, can, w.Able(q))
			}
		}
	}
}
