package plan

import (
	"math/rand"
	"reflect"
	"slices"
	"strings"
	"testing"

	"postern/api"
	"postern/bound"
	"postern/lang"
	"postern/pick"
	"postern/run"
	"postern/world"
)

func ref(r api.Ref) api.Value       { return api.Value{Kind: api.Reference, R: r} }
func list(l ...api.Value) api.Value { return api.Value{Kind: api.List, L: l} }
func want(who int, can api.Able, what api.Ref) api.Want {
	return api.Want{Who: who, Can: can, What: what}
}

// who makes a subject of code and of names, each a name and a value or a thing.
func who(t *testing.T, w *world.World, side api.Side, s string, l ...any) api.Subject {
	t.Helper()
	c, at, e := lang.Read(s)
	if e != api.OK {
		t.Fatal(s, at, e)
	}
	var names []api.Name
	for i := 0; i < len(l); i += 2 {
		v, ok := l[i+1].(api.Value)
		if !ok {
			v = ref(l[i+1].(api.Ref))
		}
		names = append(names, api.Name{Name: l[i].(string), Value: v})
	}
	x, e := run.New(w, side, c, names)
	if e != api.OK {
		t.Fatal(s, e)
	}
	return x
}

// moves reads moves: each a subject and a statement.
func moves(t *testing.T, l ...any) []api.Move {
	t.Helper()
	var out []api.Move
	for i := 0; i < len(l); i += 2 {
		c, at, e := lang.Read(l[i+1].(string))
		if e != api.OK || len(c) != 1 {
			t.Fatal(l[i+1], at, e)
		}
		out = append(out, api.Move{Who: l[i].(int), Stmt: c[0]})
	}
	return out
}

func told(l []api.Move) string {
	s := ""
	for _, m := range l {
		text, _ := lang.Text([]api.Stmt{m.Stmt})
		s += string(rune('0'+m.Who)) + ": " + text + "\n"
	}
	return s
}

const (
	c = api.Ref(1)
	l = api.Ref(2)
	g = api.Ref(3)
	n = api.Ref(4)
)

// chapter is the world of the chapter's examples: a cell, a log, a facet of the cell for get, a log, a facet for put.
func chapter(t *testing.T) (*world.World, []api.Subject) {
	t.Helper()
	w, _ := world.New()
	w.Make(api.What{Kind: api.Cell})
	w.Make(api.What{Kind: api.Log})
	w.Facet(c, api.Get)
	w.Make(api.What{Kind: api.Log})
	w.Facet(c, api.Put)
	return w, []api.Subject{who(t, w, 0, "", "c", api.Ref(5), "l", l), who(t, w, 0, "", "g", g), who(t, w, 0, "", "n", n)}
}

func TestErrors(t *testing.T) {
	w, s := chapter(t)
	bad := slices.Clone(s)
	bad[1].Side = 9
	many := slices.Repeat(s[:1], 33)
	for _, z := range []*world.World{nil, {}} {
		_, e1 := Make(z, want(9, 3, 0), bad...)
		_, _, e2 := Play(z, make([]api.Move, api.MaxTurns+1), bad...)
		_, e3 := Check(z, want(9, 3, 0), nil, bad...)
		_, e4 := Short(z, want(9, 3, 0), nil, bad...)
		_, e5 := All(z, bad...)
		for i, e := range []api.Errno{e1, e2, e3, e4, e5} {
			if e != api.ErrNil {
				t.Error(i, e)
			}
		}
	}
	for _, p := range []*pick.Play{nil, {}} {
		if ok, e := Reached(p, want(9, 3, 0)); ok || e != api.ErrNil {
			t.Error(e)
		}
	}
	for i, subjects := range [][]api.Subject{bad, many} {
		_, e1 := Make(w, want(0, 0, l), subjects...)
		_, _, e2 := Play(w, make([]api.Move, api.MaxTurns+1), subjects...)
		_, e3 := Check(w, want(0, 0, l), nil, subjects...)
		_, e4 := Short(w, want(0, 0, l), nil, subjects...)
		_, e5 := All(w, subjects...)
		if e1 != api.ErrArg || e2 != api.ErrArg || e3 != api.ErrArg || e4 != api.ErrArg || e5 != api.ErrArg {
			t.Error(i, e1, e2, e3, e4, e5)
		}
	}
	p, _ := pick.New(w, s...)
	for i, x := range []api.Want{want(3, 0, l), want(-1, 0, l), want(0, 3, l), want(0, 64, l), want(0, 0, 99), want(0, 0, 0), want(0, 0, g)} {
		_, e1 := Make(w, x, s...)
		_, e2 := Check(w, x, make([]api.Move, api.MaxTurns+1), s...)
		_, e3 := Short(w, x, nil, s...)
		ok, e4 := Reached(p, x)
		if e1 != api.ErrArg || e2 != api.ErrArg || e3 != api.ErrArg || e4 != api.ErrArg || ok {
			t.Error(i, e1, e2, e3, e4)
		}
	}
}

func TestP24_1All(t *testing.T) {
	w, s := chapter(t)
	var wanted []api.Want
	for i := range 2 {
		for _, can := range []api.Able{0, api.Get, api.Put} {
			wanted = append(wanted, want(i, can, c))
		}
		for _, can := range []api.Able{0, api.Get, api.Give} {
			wanted = append(wanted, want(i, can, l))
		}
	}
	for _, can := range []api.Able{0, api.Get, api.Give} {
		wanted = append(wanted, want(2, can, n))
	}
	if got, e := All(w, s...); e != api.OK || !slices.Equal(got, wanted) {
		t.Error(got, e)
	}
	if got, e := All(w); e != api.OK || len(got) != 0 {
		t.Error(got, e)
	}
	for w.Made(0) < api.MaxThings {
		w.Make(api.What{Kind: api.Cell})
	}
	if got, e := All(w, s...); got != nil || e != api.ErrMany {
		t.Error(got, e)
	}
	if _, e := Make(w, want(0, 0, l), s...); e != api.ErrMany {
		t.Error(e)
	}
	if _, e := Make(w, want(9, 0, l), s...); e != api.ErrArg {
		t.Error(e)
	}
}

func TestP24_2Make(t *testing.T) {
	w, s := chapter(t)
	before := w.Copy()
	for i, x := range []struct {
		want api.Want
		n    int
		e    api.Errno
	}{{want(1, api.Give, l), 2, 0}, {want(1, 0, l), 2, 0}, {want(0, api.Get, c), 5, 0}, {want(1, api.Put, c), 2, 0}, {want(0, api.Put, c), 0, 0}, {want(0, api.Get, n), 0, api.ErrFact}, {want(2, 0, c), 0, api.ErrFact}, {want(0, api.Take, l), 0, api.ErrFact}} {
		got, e := Make(w, x.want, s...)
		if e != x.e || len(got) != x.n {
			t.Error(i, told(got), e)
		}
		if at, f := Check(w, x.want, got, s...); e == api.OK && (f != api.OK || at != len(got)) {
			t.Error(i, told(got), at, f)
		}
	}
	if !world.Same(w, before) {
		t.Error("something was done")
	}
	w.Lay(c, api.What{Kind: api.Cell, Value: ref(l)})
	if got, e := Make(w, want(1, api.Give, l), s...); got != nil || e != api.ErrLoss {
		t.Error(got, e)
	}
	if _, e := Make(w, want(0, api.Get, n), s...); e != api.ErrLoss {
		t.Error(e)
	}
	v := w.Copy()
	v.Make(api.What{Kind: api.Clerk})
	if _, e := Make(v, want(2, 0, n), s[2], s[2], s[2]); e != api.ErrLoss {
		t.Error(e)
	}
	full, _ := world.New()
	full.Make(api.What{Kind: api.Cell})
	full.Make(api.What{Kind: api.Log})
	full.Facet(c, api.Put)
	full.Facet(c, api.Get)
	for full.Made(0) < api.MaxThings {
		r, _ := full.Make(api.What{Kind: api.Tally})
		full.Drop(r)
	}
	// 0 gets the cell back by a log of its own alone; but no log can be made any more.
	z := []api.Subject{who(t, full, 0, "", "p", api.Ref(3)), who(t, full, 0, "", "g", api.Ref(4))}
	if _, e := Make(full, want(0, api.Get, c), z...); e != api.ErrLimit {
		t.Error(e)
	}
}

func TestP24_3Play(t *testing.T) {
	w, s := chapter(t)
	good := moves(t, 0, "a = put c l", 1, "b = get g", 1, "x = give b 7")
	p, at, e := Play(w, good, s...)
	if e != api.OK || at != 3 || p.Len() != 3 || len(p.Ready()) != 0 {
		t.Fatal(at, e)
	}
	if l, _ := p.Lines(1); !slices.Equal(l, []string{"b = #2", "x = _"}) {
		t.Error(l)
	}
	s[0].Code = []api.Stmt{{Op: api.Fail}}
	if p, at, e := Play(w, nil, s...); e != api.OK || at != 0 || p.Len() != 0 || len(p.Ready()) != 0 {
		t.Error("the subjects' own code is left out", at, e)
	}
	for i, x := range []struct {
		moves []api.Move
		at, n int
	}{{moves(t, 0, "a = put c l", 0, "a = put l c", 1, "b = get g"), 1, 2}, {moves(t, 2, "a = await 3"), 0, 1}, {moves(t, 0, "fail"), 0, 1}, {moves(t, 0, "if same 1 1 { a = 1 } else { }", 0, "b = 2"), 2, 2}, {moves(t, 0, "p k = make promise", 0, "x = await p", 0, "y = 1"), 1, 1}} {
		p, at, e := Play(w, x.moves, s...)
		if x.at == 2 {
			// The block's statement comes ahead of the second move's: both tell.
			if e != api.OK || at != 2 || p.Len() != 2 || len(p.Ready()) != 1 {
				t.Error(i, at, e)
			}
			continue
		}
		if e != api.ErrMove || at != x.at || p == nil || p.Len() != x.n {
			t.Error(i, at, e)
		}
	}
	for i, x := range []struct {
		turn func(l []api.Move)
		at   int
	}{{func(l []api.Move) { l[1].Who = 3 }, 1}, {func(l []api.Move) { l[0].Who = -1 }, 0}, {func(l []api.Move) { l[2].Stmt.Name = "" }, 2}, {func(l []api.Move) { l[0].Stmt = api.Stmt{}; l[1].Who = 9 }, 0}} {
		l := slices.Clone(good)
		x.turn(l)
		if p, at, e := Play(w, l, s...); p != nil || at != x.at || e != api.ErrMove {
			t.Error(i, at, e)
		}
	}
	let := moves(t, 0, "x = 1")
	if p, at, e := Play(w, slices.Repeat(let, 513), s...); p != nil || at != 0 || e != api.ErrLong {
		t.Error(at, e)
	}
	if p, at, e := Play(w, slices.Repeat(let, 512), s...); p == nil || at != 512 || e != api.OK {
		t.Error(at, e)
	}
	if p, at, e := Play(w, append(slices.Repeat(let, 513), api.Move{Who: 9}), s...); p != nil || at != 0 || e != api.ErrLong {
		t.Error(at, e)
	}
	if p, at, e := Play(w, make([]api.Move, api.MaxTurns+1), s...); p != nil || at != 0 || e != api.ErrLong {
		t.Error(at, e)
	}
	branch := api.Move{Stmt: api.Stmt{Op: api.Same, Then: slices.Repeat([]api.Stmt{let[0].Stmt}, 511)}}
	if _, at, e := Play(w, []api.Move{branch}, s...); at != 1 || e != api.OK {
		t.Error(at, e)
	}
	if _, at, e := Play(w, []api.Move{branch, let[0]}, s...); at != 0 || e != api.ErrLong {
		t.Error(at, e)
	}
	branch.Stmt.Then = nil
	endless := []api.Stmt{branch.Stmt}
	endless[0].Then = endless
	if _, at, e := Play(w, []api.Move{{Stmt: endless[0]}}, s...); at != 0 || e != api.ErrLong {
		t.Error(at, e)
	}
}

func TestP24_4Check(t *testing.T) {
	w, s := chapter(t)
	two := moves(t, 0, "a = put c l", 1, "b = get g")
	for i, x := range []struct {
		want  api.Want
		moves []api.Move
		at    int
		e     api.Errno
	}{{want(1, api.Give, l), two, 2, 0}, {want(1, api.Get, c), two, 2, 0}, {want(0, api.Get, c), two, 2, api.ErrMiss}, {want(0, 0, c), two, 2, 0}, {want(1, api.Give, l), two[1:], 1, api.ErrMiss}, {want(1, api.Give, l), moves(t, 0, "a = put l c"), 0, api.ErrMove}, {want(1, api.Give, l), nil, 0, api.ErrMiss}, {want(0, api.Give, l), nil, 0, 0},
		{want(1, api.Give, l), append(slices.Clone(two), moves(t, 1, "b = 1")...), 3, api.ErrMiss}, {want(1, api.Put, l), two, 2, api.ErrMiss}, {want(1, api.Give, l), append(slices.Clone(two), api.Move{Who: 7}), 2, api.ErrMove}} {
		if at, e := Check(w, x.want, x.moves, s...); at != x.at || e != x.e {
			t.Error(i, at, e)
		}
	}
	p, _, _ := Play(w, two, s...)
	for x, wanted := range map[api.Want]bool{want(1, api.Give, l): true, want(1, 0, l): true, want(1, api.Get, c): true, want(1, api.Put, c): false, want(0, api.Put, c): true, want(2, 0, c): false, want(2, api.Get, n): true} {
		if got, e := Reached(p, x); got != wanted || e != api.OK {
			t.Error(x, got, e)
		}
	}
	nested := who(t, w, 0, "", "x", list(ref(c), list(ref(g), ref(l))))
	q, _ := pick.New(w, nested)
	if got, _ := Reached(q, want(0, api.Give, l)); !got {
		t.Error("within a list")
	}
}

func TestP24_5Short(t *testing.T) {
	w, s := chapter(t)
	two := moves(t, 0, "a = put c l", 1, "b = get g")
	long := moves(t, 0, "a = put c 1", 0, "a = put c l", 0, "d = get l", 1, "q = 1", 1, "b = get g", 1, "e = get g", 2, "z = make log")
	got, e := Short(w, want(1, api.Give, l), long, s...)
	// From behind: the first get is left, the later one is left out.
	if e != api.OK || told(got) != told(two) {
		t.Error(told(got), e)
	}
	if got, e := Short(w, want(0, 0, c), long, s...); e != api.OK || len(got) != 0 {
		t.Error(told(got), e)
	}
	if got, e := Short(w, want(0, api.Get, c), long, s...); got != nil || e != api.ErrMiss {
		t.Error(got, e)
	}
	if got, e := Short(w, want(0, 0, c), moves(t, 0, "a = put l c"), s...); got != nil || e != api.ErrMove {
		t.Error(got, e)
	}
	// What is left out later makes what was kept ahead go as well.
	more := moves(t, 0, "x = 1", 0, "y = part [ x ] 0", 0, "a = put c l", 1, "b = get g")
	if got, _ := Short(w, want(1, 0, l), more, s...); told(got) != told(two) {
		t.Error(told(got))
	}
}

// random makes a world in which there is room.
func random(t *testing.T, r *rand.Rand) (*world.World, []api.Subject) {
	t.Helper()
	w, _ := world.New(0, 0)
	some := func() api.Ref { return api.Ref(1 + r.Intn(w.Len())) }
	empty := r.Intn(2) == 0
	w.Make(api.What{Kind: api.Log})
	for w.Len() < 6+r.Intn(5) {
		x := api.What{Kind: []api.Kind{api.Cell, api.Log, api.Queue, api.Promise, api.Sealer, api.Sealer, api.Mint, api.Tally}[r.Intn(8)], Home: api.Side(r.Intn(3))}
		full := !empty && r.Intn(3) == 0
		switch x.Kind {
		case api.Cell:
			x.Value = api.Value{Kind: api.Number, N: 4}
			if full {
				x.Value = list(ref(some()), list(ref(some())))
			}
		case api.Log, api.Queue:
			x.Values = make([]api.Value, r.Intn(3))
			if full {
				x.Values = append(x.Values, list(ref(some()), list(ref(some()), ref(some()))))
			}
		case api.Promise:
			if full {
				x.Full, x.Value = true, ref(some())
				break
			}
			p, _ := w.Make(x)
			x.Kind, x.Of = api.Keeper, p
		case api.Sealer, api.Mint:
			p, _ := w.Make(x)
			x.Kind, x.Of = map[api.Kind]api.Kind{api.Sealer: api.Opener, api.Mint: api.Purse}[x.Kind], p
			if x.Kind == api.Opener && full {
				w.Make(api.What{Kind: api.Box, Home: x.Home, Of: p, Value: list(ref(some()))})
			}
		}
		w.Make(x)
	}
	for range r.Intn(6) {
		switch r.Intn(4) {
		case 0:
			s, _ := w.Make(api.What{Kind: api.Switch, Home: 1, Full: r.Intn(4) == 0})
			w.Make(api.What{Kind: api.Gate, Home: 1, Of: some(), By: s})
		case 1:
			n, _ := w.Make(api.What{Kind: api.Tally, Home: 2})
			w.Make(api.What{Kind: api.Tap, Home: 2, Of: some(), By: n})
		default:
			w.Facet(some(), []api.Able{api.Get, api.Put, api.Give, api.Take, 0}[r.Intn(5)])
		}
	}
	if r.Intn(3) == 0 {
		w.CutEdge(1 + r.Intn(2))
	}
	var l []api.Subject
	for range 2 + r.Intn(3) {
		l = append(l, who(t, w, api.Side(r.Intn(3)), "", "a", some(), "b", some(), "c", list(ref(some()), list(ref(some())))))
	}
	return w, l
}

func TestP24_6Exact(t *testing.T) {
	r := rand.New(rand.NewSource(1))
	went, planned, longest := 0, 0, 0
	for range 400 {
		w, l := random(t, r)
		f, e := bound.Of(w, l...)
		if e != api.OK || !f.Lossless() {
			continue
		}
		went++
		all, _ := All(w, l...)
		for i := range l {
			for q, kind := range w.Things() {
				for _, can := range []api.Able{0, 1, 2, 4, 8, 16, 32} {
					if kind == api.Facet || r.Intn(12) > 0 {
						continue
					}
					x := want(i, can, q)
					got, e := Make(w, x, l...)
					if slices.Contains(all, x) != (e == api.OK) || e != api.OK && e != api.ErrFact {
						t.Fatal(x, e)
					}
					if e != api.OK {
						continue
					}
					if at, e := Check(w, x, got, l...); e != api.OK || at != len(got) {
						t.Fatal(told(got), at, e)
					}
					planned++
					longest = max(longest, len(got))
				}
			}
		}
	}
	if went < 50 || planned < 500 || longest < 8 {
		t.Error("too little", went, planned, longest)
	}
}

func TestP24_6Sound(t *testing.T) {
	r := rand.New(rand.NewSource(2))
	texts := []string{"x = get a", "x = put a b", "x = give a b", "y = take a 1", "z = part y 0", "z = part c 0", "x = ask a b", "x = ask b x", "s o = make seal", "x = ask s a", "a = z", "b = x", "l = make log", "x = give l a"}
	for range 80 {
		w, l := random(t, r)
		all, e := All(w, l...)
		if e != api.OK {
			t.Fatal(e)
		}
		var m []api.Move
		for range 12 {
			next := append(slices.Clone(m), moves(t, r.Intn(len(l)), texts[r.Intn(len(texts))])...)
			if _, _, e := Play(w, next, l...); e == api.OK {
				m = next
			}
		}
		for i := range l {
			for q, kind := range w.Things() {
				for _, can := range []api.Able{0, 1, 2, 4, 8, 16, 32} {
					x := want(i, can, q)
					if _, e := Check(w, x, m, l...); kind != api.Facet && e == api.OK && !slices.Contains(all, x) {
						t.Error("a plan for what the bound does not say", x, told(m))
					}
				}
			}
		}
	}
}

func TestP24_7Short(t *testing.T) {
	r := rand.New(rand.NewSource(3))
	n := 0
	for range 120 {
		w, l := random(t, r)
		all, _ := All(w, l...)
		if len(all) == 0 {
			continue
		}
		x := all[r.Intn(len(all))]
		got, e := Make(w, x, l...)
		if e != api.OK || len(got) == 0 {
			continue
		}
		n++
		var wide []api.Move
		for i, m := range got {
			wide = append(wide, moves(t, i%len(l), "zz = make log", i%len(l), "yy = 1")...)
			wide = append(wide, m)
		}
		short, e := Short(w, x, wide, l...)
		if e != api.OK || len(short) > len(got) {
			t.Error(told(got), told(short), e)
		}
		if at, e := Check(w, x, short, l...); e != api.OK || at != len(short) {
			t.Error(told(short), at, e)
		}
		for i := range short {
			if _, e := Check(w, x, slices.Delete(slices.Clone(short), i, i+1), l...); e == api.OK {
				t.Error("one can be left out", i, told(short))
			}
		}
		if again, _ := Short(w, x, short, l...); !reflect.DeepEqual(again, short) {
			t.Error(told(again), told(short))
		}
	}
	if n < 20 {
		t.Error("too little", n)
	}
}

func TestP24_8Stays(t *testing.T) {
	w, s := chapter(t)
	x := want(1, api.Give, l)
	plan, _ := Make(w, x, s...)
	more := append(slices.Clone(plan), moves(t, 0, "z = put c 1", 1, "zz = get g", 2, "q = give n 1", 0, "q = give l 1")...)
	if at, e := Check(w, x, more, s...); at != len(more) || e != api.OK {
		t.Error(at, e)
	}
}

func TestQueue(t *testing.T) {
	w, _ := world.New()
	w.Make(api.What{Kind: api.Log})
	w.Make(api.What{Kind: api.Queue, Values: make([]api.Value, 3)})
	give, _ := w.Facet(2, api.Give)
	take, _ := w.Facet(2, api.Take)
	l := []api.Subject{who(t, w, 0, "", "l", api.Ref(1), "c", give), who(t, w, 0, "", "g", take)}
	got, e := Make(w, want(1, api.Give, 1), l...)
	if s := told(got); e != api.OK || !strings.Contains(s, "take g 4") || !strings.Contains(s, "part") {
		t.Error(s, e)
	}
}

// TestBoxes is of what is brought in a box that is sealed anew, within another one: by links that say so.
func TestBoxes(t *testing.T) {
	w, _ := world.New()
	w.Make(api.What{Kind: api.Log})
	w.Make(api.What{Kind: api.Cell})
	for range 2 {
		s, _ := w.Make(api.What{Kind: api.Sealer})
		w.Make(api.What{Kind: api.Opener, Of: s})
	}
	put, _ := w.Facet(2, api.Put)
	get, _ := w.Facet(2, api.Get)
	l := []api.Subject{who(t, w, 0, "", "l", api.Ref(1), "s", api.Ref(3), "u", api.Ref(5), "c", put), who(t, w, 0, "", "o", list(ref(4), ref(6)), "g", get)}
	zero, one := api.Holder{Subject: 0}, api.Holder{Subject: 1}
	is := func(r api.Ref) api.Spot { return api.Spot{Kind: api.SpotThing, Ref: r} }
	box := func(s api.Ref) api.Spot { return api.Spot{Kind: api.SpotBox, Ref: s, Of: zero} }
	holds := func(u api.Holder, y api.Spot, can api.Able) api.Fact { return api.Fact{By: u, What: y, Can: can} }
	lies := func(x, y api.Spot, can api.Able) api.Fact { return api.Fact{In: x, What: y, Can: can} }
	links := []api.Link{
		{Fact: holds(zero, is(1), api.Give)}, {Fact: holds(zero, is(3), api.Ask)}, {Fact: holds(zero, is(5), api.Ask)}, {Fact: holds(zero, is(2), api.Put)}, {Fact: holds(one, is(4), api.Ask)}, {Fact: holds(one, is(6), api.Ask)}, {Fact: holds(one, is(2), api.Get)},
		{Fact: holds(zero, box(3), 0), Rule: 2, From: []int{1}}, {Fact: lies(box(3), is(1), api.Give), Rule: 2, From: []int{1, 0}},
		{Fact: holds(zero, box(5), 0), Rule: 2, From: []int{2}}, {Fact: lies(box(5), box(3), 0), Rule: 2, From: []int{2, 7}},
		{Fact: lies(is(2), box(5), 0), Rule: 1, From: []int{3, 9}}, {Fact: holds(one, box(5), 0), Rule: 1, From: []int{6, 11}},
		{Fact: holds(one, box(3), 0), Rule: 2, From: []int{5, 12, 10}}, {Fact: holds(one, is(1), api.Give), Rule: 2, From: []int{4, 13, 8}},
	}
	f, _ := bound.Of(w, l...)
	if n, e := f.Follows(links...); n != len(links) || e != api.OK {
		t.Fatal(n, e)
	}
	got, ok := build(w, links, l)
	if at, e := Check(w, want(1, api.Give, 1), got, l...); !ok || e != api.OK || strings.Count(told(got), "ask") != 4 {
		t.Error(told(got), at, e)
	}
}
