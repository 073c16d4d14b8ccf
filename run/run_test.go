package run

import (
	"fmt"
	"math/rand"
	"reflect"
	"slices"
	"strings"
	"testing"

	"postern/api"
	"postern/clerk"
	"postern/code"
	"postern/lang"
	"postern/value"
	"postern/world"
)

func num(n int64) api.Value         { return api.Value{Kind: api.Number, N: n} }
func ref(r api.Ref) api.Value       { return api.Value{Kind: api.Reference, R: r} }
func list(l ...api.Value) api.Value { return api.Value{Kind: api.List, L: l} }
func refs(l ...api.Ref) []api.Ref   { return l }

var none = api.Value{}

func read(t *testing.T, s string) []api.Stmt {
	t.Helper()
	c, at, e := lang.Read(s)
	if e != api.OK {
		t.Fatal(s, at, e)
	}
	return c
}

// names makes names of pairs.
func names(l ...any) []api.Name {
	var out []api.Name
	for i := 0; i < len(l); i += 2 {
		n := api.Name{Name: l[i].(string)}
		switch x := l[i+1].(type) {
		case api.Ref:
			n.Value = ref(x)
		case api.Value:
			n.Value = x
		}
		out = append(out, n)
	}
	return out
}

const cell = api.Ref(1)

func lay(t *testing.T) *world.World {
	t.Helper()
	w, _ := world.New(0)
	w.Make(api.What{Kind: api.Cell, Value: num(7)})
	return w
}

func subject(t *testing.T, w *world.World, s string, l ...any) api.Subject {
	t.Helper()
	x, e := New(w, 0, read(t, s), names(l...))
	if e != api.OK {
		t.Fatal(s, e)
	}
	return x
}

// goes runs a subject to its end and tells its lines' texts.
func goes(t *testing.T, w *world.World, s api.Subject) (api.Subject, []string) {
	t.Helper()
	next, lines, e := All(w, s, 1000)
	if e != api.OK {
		t.Fatal(e)
	}
	texts, e := Texts(s, lines)
	if e != api.OK {
		t.Fatal(e)
	}
	return next, texts
}

func TestNilWorlds(t *testing.T) {
	for _, w := range []*world.World{nil, {}} {
		_, e1 := New(w, 9, []api.Stmt{{}}, names("A", none))
		_, e2 := Ready(w, api.Subject{Side: 9})
		_, _, _, _, e3 := Step(w, api.Subject{Side: 9})
		_, _, e4 := All(w, api.Subject{Side: 9}, -1)
		for i, e := range []api.Errno{e1, e2, e3, e4, Check(w, api.Subject{Side: 9})} {
			if e != api.ErrNil {
				t.Error(i, e)
			}
		}
	}
}

func TestP19_1New(t *testing.T) {
	w := lay(t)
	w.Make(api.What{Kind: api.Log})
	c := read(t, "x = 1")
	own := names("a", list(ref(2), list(ref(1)), ref(2)), "b", cell)
	s, e := New(w, 1, c, own)
	if e != api.OK || s.Side != 1 || !code.Same(s.Code, c) || !reflect.DeepEqual(s.Names, own) || !slices.Equal(s.Seen, refs(2, 1)) || Check(w, s) != api.OK {
		t.Error(s, e)
	}
	own[0].Value.L[0] = num(1)
	c[0].Name = "z"
	if s.Names[0].Value.L[0].R != 2 || s.Code[0].Name != "x" {
		t.Error("kept what was handed in")
	}
	bad := []api.Stmt{{Op: api.Let}}
	for i, p := range []struct {
		side  api.Side
		c     []api.Stmt
		names []api.Name
		e     api.Errno
	}{{2, bad, nil, api.ErrArg}, {-1, bad, nil, api.ErrArg}, {0, bad, names("A", none), api.ErrArg}, {0, bad, names("a", none, "a", none), api.ErrArg}, {0, bad, names("a", api.Ref(99)), api.ErrArg}, {0, bad, names("a", ref(0)), api.ErrArg}, {0, bad, nil, api.ErrCode}, {0, slices.Repeat(read(t, "fail"), 513), nil, api.ErrLong}} {
		if s, e := New(w, p.side, p.c, p.names); e != p.e || !reflect.DeepEqual(s, api.Subject{}) {
			t.Error(i, s, e)
		}
	}
}

// wrong turns a subject that may be into ones that may not.
func wrong(s api.Subject) []api.Subject {
	var l []api.Subject
	for _, turn := range []func(s *api.Subject){
		func(s *api.Subject) { s.Side = 2 }, func(s *api.Subject) { s.Side = -1 }, func(s *api.Subject) { s.Code = []api.Stmt{{Op: api.Let}} }, func(s *api.Subject) { s.Names = names("A", none) }, func(s *api.Subject) { s.Names = names("a", api.Ref(99)) },
		func(s *api.Subject) { s.Seen = nil }, func(s *api.Subject) { s.Seen = refs(1, 1) }, func(s *api.Subject) { s.Seen = refs(1, 0) }, func(s *api.Subject) { s.Seen = refs(1, -4) }, func(s *api.Subject) { s.Seen = refs(1, 4) }, func(s *api.Subject) { s.Names, s.Seen = names("a", api.Ref(3)), refs(1, 3) },
	} {
		x := s
		turn(&x)
		l = append(l, x)
	}
	return l
}

func TestP19_1Check(t *testing.T) {
	w := lay(t)
	w.Make(api.What{Kind: api.Log})
	w.Make(api.What{Kind: api.Log})
	w.Drop(2, 3)
	s := subject(t, w, "x = 1", "c", cell)
	s.Seen = refs(3, 1, 2)
	if Check(w, s) != api.OK {
		t.Error("what was swept away may be seen")
	}
	for i, x := range wrong(s) {
		if e := Check(w, x); e != api.ErrSubject {
			t.Error(i, e)
		}
		r, e1 := Ready(w, x)
		n, line, deeds, went, e2 := Step(w, x)
		m, lines, e3 := All(w, x, 5)
		if r || went || lines != nil || deeds != nil || !reflect.DeepEqual(n, api.Subject{}) || !reflect.DeepEqual(m, api.Subject{}) || !reflect.DeepEqual(line, api.Line{}) || e1 != api.ErrSubject || e2 != api.ErrSubject || e3 != api.ErrSubject {
			t.Error(i, e1, e2, e3)
		}
	}
}

func TestP19_2Ready(t *testing.T) {
	w := lay(t)
	w.Make(api.What{Kind: api.Promise})
	w.Make(api.What{Kind: api.Keeper, Of: 2})
	w.Make(api.What{Kind: api.Switch, Home: 1})
	gate, _ := w.Make(api.What{Kind: api.Gate, Home: 1, Of: 2, By: 4})
	own := []any{"p", api.Ref(2), "g", gate, "c", cell, "k", api.Ref(3), "big", list(make([]api.Value, 300)...)}
	ready := func(c string, want bool) {
		t.Helper()
		s := subject(t, w, c, own...)
		if got, e := Ready(w, s); got != want || e != api.OK {
			t.Error(c, got, e)
		}
		if next, line, deeds, went, e := Step(w.Copy(), s); !want && (went || e != api.OK || !reflect.DeepEqual(next, s) || !reflect.DeepEqual(line, api.Line{}) || deeds != nil) || want != went {
			t.Error(c, line, went, e)
		}
	}
	ready("", false)
	ready("x = await p", false)
	ready("x = await g", false)
	ready("x = get p", true)
	ready("x = await c", true)
	ready("x = await 3", true)
	ready("x = await q", true)
	ready("x = await k", true)
	ready("x = await [ big big ]", true)
	w.CutEdge(1)
	ready("x = await g", true)
	ready("x = await p", false)
	x, _ := w.What(2)
	x.Full = true
	w.Lay(2, x)
	ready("x = await p", true)
}

func TestP19_3Lines(t *testing.T) {
	for s, want := range map[string]string{
		"x = get c ; y = take c 1 ; reply [ x c ]":                                                                      "x = 7; fault 6; reply [7 #1]",
		"l = make log ; z = give l c ; q = get l ; f = make facet c get":                                                "l = #2; z = _; q = [#1]; f = #3",
		"if same c c { a = 1 } else { b = 2 } ; if can c take { fail } else { }":                                        "then; a = 1; else",
		"s o = make seal ; b = ask s c ; v = ask o b ; w = ask o c":                                                     "s = #2 o = #3; b = #4; v = #1; fault 91",
		"p k = make promise ; v = await p ; w = 1":                                                                      "p = #2 k = #3",
		"g h = make gate c ; n = cut h ; x = get g":                                                                     "g = #2 h = #3; n = _; fault 7",
		"x = part [ 1 c ] 1 ; y = part [ 1 ] 1 ; z = part [ 1 ] -1 ; w = part c 0 ; v = part [ 1 ] c":                   "x = #1; fault 2; fault 2; fault 2; fault 2",
		"fail ; reply _ ; x = _ ; x = \"a\"":                                                                            "fault 161; reply _; x = _; x = \"a\"",
		"x = get 3 ; x = await 3 ; x = make facet 3 get ; x y = make gate d ; x y = make tap [ c ]":                     "fault 2; fault 2; fault 2; fault 2; fault 2",
		"if same [ big big ] 1 { } else { } ; if can [ big big ] _ { } else { } ; x = [ big big ]":                      "fault 8; fault 8; fault 8",
		"x = put [ big big ] 1 ; x = put 3 [ big big ] ; x = make cell [ big big ] ; reply [ big big ]":                 "fault 8; fault 8; fault 8; fault 8",
		"if can 3 _ { x = 1 } else { x = 2 } ; if can c get + put { x = 3 } else { }":                                   "else; x = 2; then; x = 3",
		"if same 1 1 { if same 1 2 { } else { a = 1 ; b = 2 } ; c = 3 } else { } ; d = 4":                               "then; else; a = 1; b = 2; c = 3; d = 4",
		"k = make clerk [ c ] { x = get c ; reply [ x it ] } ; y = ask k 5 ; k = make clerk [ ] { fail } ; y = ask k 5": "k = #2; y = [7 5]; k = #3; fault 140",
		"x = put c [ ] ; t n = make tap c ; x = get t ; y = get n ; m = make mint ; p = ask m 3 ; q = take p 4":         "x = _; t = #2 n = #3; x = []; y = 1; m = #4; p = #5; fault 81",
	} {
		w := lay(t)
		if _, got := goes(t, w, subject(t, w, s, "c", cell, "big", list(make([]api.Value, 300)...))); strings.Join(got, "; ") != want {
			t.Error(s, got, want)
		}
	}
}

func TestP19_3Step(t *testing.T) {
	w := lay(t)
	s := subject(t, w, "x = put c 1 ; s o = make seal ; if same 1 1 { a = 1 } else { fail } ; x = take c 1 ; reply x", "c", cell, "x", num(5))
	step := func(want api.Line, deeds int) []api.Deed {
		t.Helper()
		before := own(s)
		next, line, d, went, e := Step(w, s)
		if e != api.OK || !went || !reflect.DeepEqual(line, want) || len(d) != deeds {
			t.Error(line, d, went, e)
		}
		if !reflect.DeepEqual(before, s) {
			t.Error("what was handed in is changed")
		}
		s = next
		if Check(w, s) != api.OK {
			t.Error("may not be", s)
		}
		return d
	}
	d := step(api.Line{Op: api.Act, Name: "x"}, 1)
	if !reflect.DeepEqual(d[0], api.Deed{Kind: api.Acted, On: cell, Base: cell, Able: api.Put, With: num(1)}) {
		t.Error(d)
	}
	d = step(api.Line{Op: api.Make, Name: "s", Second: "o", Value: ref(2), Other: ref(3)}, 1)
	if !reflect.DeepEqual(d[0], api.Deed{Kind: api.Built, What: api.Sealer, Made: refs(2, 3)}) || !slices.Equal(s.Seen, refs(1, 2, 3)) {
		t.Error(d, s.Seen)
	}
	step(api.Line{Op: api.Same, Then: true}, 0)
	if len(s.Code) != 3 || s.Code[0].Name != "a" {
		t.Error(s.Code)
	}
	step(api.Line{Op: api.Let, Name: "a", Value: num(1)}, 0)
	step(api.Line{Op: api.Act, Name: "x", Code: api.ErrUnable}, 0)
	if v, ok := code.Get(s.Names, "x"); !ok || v.Kind != api.Nothing {
		t.Error("the name stands for nothing behind a fault", v, ok)
	}
	step(api.Line{Op: api.Reply}, 0)
	if len(s.Code) != 0 {
		t.Error(s.Code)
	}
	far := s
	far.Side, far.Code = 1, read(t, "x = make log ; y = get c")
	w.CutEdge(1)
	next, line, _, _, _ := Step(w, far)
	if home, _ := w.Home(line.Value.R); home != 1 {
		t.Error("made elsewhere", line)
	}
	if _, line, _, _, _ := Step(w, next); line.Code != api.ErrCut {
		t.Error(line)
	}
}

func TestP19_3Room(t *testing.T) {
	w := lay(t)
	many := []any{"c", cell, "big", list(make([]api.Value, 300)...)}
	for i := range 62 {
		many = append(many, fmt.Sprint("n", i), num(int64(i)))
	}
	for _, p := range []struct {
		n      int
		c      string
		want   string
		x, n1  bool
		counts int
	}{{64, "x = 1", "fault 8", false, true, 64}, {64, "n1 = [ ]", "n1 = []", false, true, 64}, {64, "n1 x = make seal", "fault 8", false, true, 64}, {64, "x n1 = make seal", "fault 8", false, true, 64}, {63, "x y = make seal", "fault 8", true, true, 64}, {62, "x y = make seal", "x = #2 y = #3", true, true, 64},
		{64, "x = get 3", "fault 8", false, true, 64}, {64, "x = [ big big ]", "fault 8", false, true, 64}, {63, "x = get 3", "fault 2", true, true, 64}, {63, "x = [ big big ]", "fault 8", true, true, 64}, {64, "x = await c", "fault 8", false, true, 64}, {64, "x = make log", "fault 8", false, true, 64}} {
		v := w.Copy()
		s, got := goes(t, v, subject(t, v, p.c, many[:2*p.n]...))
		_, x := code.Get(s.Names, "x")
		n1, _ := code.Get(s.Names, "n1")
		if strings.Join(got, "; ") != p.want || x != p.x || len(s.Names) != p.counts {
			t.Error(p.c, p.n, got, x, len(s.Names))
		}
		if strings.Contains(p.c, "n1") && p.want == "fault 8" && n1.Kind != api.Nothing {
			t.Error(p.c, "stands for something", n1)
		}
		if p.want == "fault 8" && v.Len() != w.Len() {
			t.Error(p.c, "something was made")
		}
	}
}

func TestP19_4All(t *testing.T) {
	w := lay(t)
	s := subject(t, w, "x = 1 ; y = 2 ; z = 3", "c", cell)
	for most, n := range map[int]int{0: 0, 2: 2, 3: 3, 9: 3} {
		next, lines, e := All(w, s, most)
		if e != api.OK || len(lines) != n || len(next.Code) != 3-n {
			t.Error(most, lines, e)
		}
	}
	if next, lines, e := All(w, api.Subject{Side: 9}, -1); e != api.ErrArg || lines != nil || !reflect.DeepEqual(next, api.Subject{}) {
		t.Error(e)
	}
	if _, _, e := All(w, s, -1); e != api.ErrArg {
		t.Error(e)
	}
}

func TestP19_4Text(t *testing.T) {
	s := api.Subject{Seen: refs(9, 4)}
	for i, p := range []struct {
		line api.Line
		want string
		e    api.Errno
	}{
		{api.Line{Op: api.Let, Name: "x", Value: list(ref(4), ref(9))}, "x = [#2 #1]", 0}, {api.Line{Op: api.Make, Name: "x", Second: "y", Value: ref(4), Other: ref(9)}, "x = #2 y = #1", 0}, {api.Line{Op: api.Make, Name: "x", Value: ref(4)}, "x = #2", 0}, {api.Line{Op: api.Reply, Value: num(3)}, "reply 3", 0},
		{api.Line{Op: api.Same, Then: true}, "then", 0}, {api.Line{Op: api.Can}, "else", 0}, {api.Line{Op: api.Fail, Code: api.ErrFail}, "fault 161", 0}, {api.Line{Op: api.Await, Name: "x", Value: none}, "x = _", 0}, {api.Line{Op: api.Act, Name: "x", Code: 6}, "fault 6", 0}, {api.Line{Op: api.Make, Name: "x", Second: "y", Code: 8}, "fault 8", 0},
		{api.Line{Op: api.Same, Code: 8}, "fault 8", 0}, {api.Line{Op: api.Reply, Code: 8}, "fault 8", 0}, {api.Line{Op: api.Let, Name: "x", Value: ref(5)}, "", api.ErrLine}, {api.Line{Op: api.Make, Name: "x", Second: "y", Value: ref(4), Other: ref(5)}, "", api.ErrLine},
		{api.Line{}, "", api.ErrArg}, {api.Line{Op: 10}, "", api.ErrArg}, {api.Line{Op: api.Let}, "", api.ErrArg}, {api.Line{Op: api.Let, Name: "A"}, "", api.ErrArg}, {api.Line{Op: api.Let, Name: "x", Second: "y"}, "", api.ErrArg}, {api.Line{Op: api.Reply, Name: "x"}, "", api.ErrArg}, {api.Line{Op: api.Same, Name: "x"}, "", api.ErrArg},
		{api.Line{Op: api.Make, Name: "x", Second: "x", Value: ref(4), Other: ref(9)}, "", api.ErrArg}, {api.Line{Op: api.Make, Name: "x", Second: "A", Value: ref(4), Other: ref(9)}, "", api.ErrArg}, {api.Line{Op: api.Make, Name: "x", Second: "y", Value: ref(4)}, "", api.ErrArg}, {api.Line{Op: api.Make, Name: "x", Value: ref(4), Other: ref(9)}, "", api.ErrArg},
		{api.Line{Op: api.Make, Name: "x", Value: num(1)}, "", api.ErrArg}, {api.Line{Op: api.Make, Name: "x"}, "", api.ErrArg}, {api.Line{Op: api.Let, Name: "x", Value: ref(0)}, "", api.ErrArg}, {api.Line{Op: api.Let, Name: "x", Other: num(1)}, "", api.ErrArg}, {api.Line{Op: api.Let, Name: "x", Then: true}, "", api.ErrArg},
		{api.Line{Op: api.Same, Value: num(1)}, "", api.ErrArg}, {api.Line{Op: api.Can, Other: num(1)}, "", api.ErrArg}, {api.Line{Op: api.Same, Then: true, Code: 8}, "", api.ErrArg}, {api.Line{Op: api.Fail}, "", api.ErrArg}, {api.Line{Op: api.Fail, Code: 8}, "", api.ErrArg}, {api.Line{Op: api.Fail, Code: api.ErrFail, Value: num(1)}, "", api.ErrArg},
		{api.Line{Op: api.Let, Name: "x", Code: -1}, "", api.ErrArg}, {api.Line{Op: api.Let, Name: "x", Code: 8, Value: num(1)}, "", api.ErrArg}, {api.Line{Op: api.Make, Name: "x", Second: "y", Code: 8, Other: ref(4)}, "", api.ErrArg}, {api.Line{Op: api.Let, Name: "x", Other: api.Value{N: 1}}, "", api.ErrArg},
	} {
		if got, e := Text(s, p.line); got != p.want || e != p.e {
			t.Error(i, got, e)
		}
	}
	l, e := Texts(s, []api.Line{{Op: api.Let, Name: "x", Value: ref(5)}, {Op: api.Reply, Value: list(ref(7), ref(5), ref(9))}})
	if e != api.OK || !slices.Equal(l, []string{"x = #3", "reply [#4 #3 #1]"}) || len(s.Seen) != 2 {
		t.Error(l, e)
	}
	if l, e := Texts(s, []api.Line{{Op: api.Same}, {Op: api.Let}}); l != nil || e != api.ErrArg {
		t.Error(l, e)
	}
	if l, e := Texts(s, nil); len(l) != 0 || e != api.OK {
		t.Error(l, e)
	}
}

// some makes a subject that does this and that.
func some(t *testing.T, r *rand.Rand, w *world.World) api.Subject {
	t.Helper()
	texts := []string{"x = get a", "x = put a b", "l = make log", "x = give l [ a b l ]", "y = get l", "z = part y 1", "s o = make seal", "b = ask s a", "x = ask o b", "f = make facet a get", "g h = make gate a", "x = get g", "x = cut h", "m = make mint", "p = ask m 5", "q = take p 2", "x = give p q",
		"t n = make tap a", "x = get t", "if same a b { x = 1 } else { a = b }", "if can x put { x = put x a } else { fail }", "k = make clerk [ a ] { x = get a ; reply [ x it ] }", "x = ask k x", "reply [ a b x l ]", "p k = make promise", "x = give k a", "v = await p", "u = make queue", "x = give u a", "y = take u 1"}
	var l []string
	for range 25 {
		l = append(l, texts[r.Intn(len(texts))])
	}
	return subject(t, w, strings.Join(l, " ; "), "a", api.Ref(1+r.Intn(w.Len())), "b", api.Ref(1+r.Intn(w.Len())))
}

func held(s api.Subject) []api.Ref {
	var l []api.Ref
	for _, n := range s.Names {
		l = append(l, value.Refs(n.Value)...)
	}
	return l
}

func TestP19_5NothingFromNothing(t *testing.T) {
	r := rand.New(rand.NewSource(1))
	for range 150 {
		w := lay(t)
		s := some(t, r, w)
		for {
			next, line, _, went, e := Step(w, s)
			if e != api.OK {
				t.Fatal(e)
			}
			if !went {
				break
			}
			for _, q := range held(next) {
				in := slices.Contains(held(s), q) || slices.Contains(value.Refs(line.Value), q) || slices.Contains(value.Refs(line.Other), q)
				if !in || !w.Is(q) {
					t.Error("out of nothing", q)
				}
			}
			s = next
			if Check(w, s) != api.OK {
				t.Fatal("may not be")
			}
		}
	}
}

func TestP19_6Steps(t *testing.T) {
	r := rand.New(rand.NewSource(2))
	for range 60 {
		w := lay(t)
		s := some(t, r, w)
		v := w.Copy()
		n := r.Intn(20)
		one, a, _ := All(w, s, n)
		two, b, _ := All(w, one, 7)
		both, all, _ := All(v, s, n+7)
		if len(a) == n && (!reflect.DeepEqual(two, both) || !reflect.DeepEqual(append(a, b...), all) || !world.Same(w, v)) {
			t.Error("in two is not in one")
		}
	}
}

// spread tells a world and a subject anew, with gaps between the numbers.
func spread(w *world.World, s api.Subject) (*world.World, api.Subject) {
	to := func(r api.Ref) api.Ref {
		if r == 0 {
			return 0
		}
		return r*3 + 2
	}
	turn := func(v api.Value) api.Value {
		l := value.Refs(v)
		var m []api.Ref
		for _, r := range l {
			m = append(m, to(r))
		}
		v, _ = value.Rename(v, l, m)
		return v
	}
	x := w.Tell()
	x.Last = to(x.Last)
	for i := range x.Things {
		y := &x.Things[i]
		y.Ref, y.What.Of, y.What.By, y.What.Value = to(y.Ref), to(y.What.Of), to(y.What.By), turn(y.What.Value)
		for j := range y.What.Values {
			y.What.Values[j] = turn(y.What.Values[j])
		}
	}
	for i := range x.Made {
		x.Made[i] += 100
	}
	v, _ := world.From(x)
	s = own(s)
	for i := range s.Names {
		s.Names[i].Value = turn(s.Names[i].Value)
	}
	for i := range s.Seen {
		s.Seen[i] = to(s.Seen[i])
	}
	return v, s
}

func TestP19_7Numbers(t *testing.T) {
	r := rand.New(rand.NewSource(3))
	for range 100 {
		w := lay(t)
		w.Make(api.What{Kind: api.Log, Values: []api.Value{ref(1)}})
		w.Facet(2, api.Get)
		s := some(t, r, w)
		v, z := spread(w, s)
		_, a := goes(t, w, s)
		_, b := goes(t, v, z)
		if !slices.Equal(a, b) {
			t.Error(a, b)
		}
	}
}

func TestDeedsAreClerks(t *testing.T) {
	w := lay(t)
	k, e := clerk.New(w, 0, read(t, "x = get c ; reply x"), names("c", cell))
	if e != api.OK {
		t.Fatal(e)
	}
	v := w.Copy()
	_, _, deeds, _, _ := Step(w, subject(t, w, "x = ask k 1", "k", k))
	_, want, _ := clerk.Do(v, 0, k, api.Ask, num(1))
	if !reflect.DeepEqual(deeds, want) || len(deeds) != 3 {
		t.Error(deeds)
	}
}
