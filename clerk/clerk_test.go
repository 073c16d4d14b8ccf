package clerk

import (
	"errors"
	"fmt"
	"math/rand"
	"reflect"
	"runtime"
	"slices"
	"strings"
	"testing"

	"postern/act"
	"postern/api"
	"postern/code"
	"postern/lang"
	"postern/value"
	"postern/world"
)

func num(n int64) api.Value         { return api.Value{Kind: api.Number, N: n} }
func ref(r api.Ref) api.Value       { return api.Value{Kind: api.Reference, R: r} }
func list(l ...api.Value) api.Value { return api.Value{Kind: api.List, L: l} }

var none = api.Value{}

func read(t *testing.T, s string) []api.Stmt {
	t.Helper()
	c, at, e := lang.Read(s)
	if e != api.OK {
		t.Fatal(s, at, e)
	}
	return c
}

// names makes names of pairs.
func names(l ...any) []api.Name {
	var out []api.Name
	for i := 0; i < len(l); i += 2 {
		n := api.Name{Name: l[i].(string)}
		switch x := l[i+1].(type) {
		case api.Ref:
			n.Value = ref(x)
		case api.Value:
			n.Value = x
		}
		out = append(out, n)
	}
	return out
}

func hire(t *testing.T, w *world.World, s string, l ...any) api.Ref {
	t.Helper()
	r, e := New(w, 0, read(t, s), names(l...))
	if e != api.OK {
		t.Fatal(s, e)
	}
	return r
}

func codes(err error) []api.Errno {
	var f api.Fault
	if !errors.As(err, &f) {
		return nil
	}
	l := []api.Errno{f.Code()}
	for _, under := range f.Unwrap()[1:] {
		l = append(l, codes(under)...)
	}
	return l
}

// asks asks a clerk and holds the answer, or the Codes of the fault, against what is wanted.
func asks(t *testing.T, w *world.World, k api.Ref, v, want api.Value, faults ...api.Errno) []api.Deed {
	t.Helper()
	before := w.Copy()
	got, deeds, err := Do(w, 0, k, api.Ask, v)
	if !slices.Equal(codes(err), faults) || !value.Same(got, want) {
		t.Error("got", got, codes(err), "wanted", want, faults)
	}
	if err != nil && (!world.Same(w, before) || deeds != nil) {
		t.Error("a fault that changed something")
	}
	return deeds
}

func kinds(l []api.Deed) []api.DeedKind {
	var out []api.DeedKind
	for _, d := range l {
		out = append(out, d.Kind)
	}
	return out
}

// lay is a world with a cell 1 that has 7.
func lay(t *testing.T) *world.World {
	t.Helper()
	w, _ := world.New(0)
	w.Make(api.What{Kind: api.Cell, Value: num(7)})
	return w
}

const cell = api.Ref(1)

func TestP18_1New(t *testing.T) {
	w := lay(t)
	c := read(t, "reply it")
	for _, z := range []*world.World{nil, {}} {
		if r, e := New(z, 9, nil, names("A", none)); r != 0 || e != api.ErrNil {
			t.Error(r, e)
		}
	}
	r, e := New(w, 1, c, names("c", cell))
	x, _ := w.What(r)
	if r != 2 || e != api.OK || x.Kind != api.Clerk || x.Home != 1 || !code.Same(x.Code, c) || len(x.Names) != 1 || x.Names[0].Value.R != cell {
		t.Error(r, e, x)
	}
	before := w.Copy()
	bad := []api.Stmt{{Op: api.Let}}
	for i, p := range []struct {
		home  api.Side
		c     []api.Stmt
		names []api.Name
		e     api.Errno
	}{{2, bad, nil, api.ErrArg}, {-1, c, nil, api.ErrArg}, {0, bad, names("A", none), api.ErrArg}, {0, bad, names("a", api.Ref(99)), api.ErrCode}, {0, slices.Repeat(c, 513), nil, api.ErrLong}, {0, c, names("a", api.Ref(99)), api.ErrRef}, {0, c, names("a", ref(0)), api.ErrArg}} {
		if r, e := New(w, p.home, p.c, p.names); r != 0 || e != p.e || !world.Same(w, before) {
			t.Error(i, r, e)
		}
	}
	for w.Made(1) < api.MaxThings {
		w.Make(api.What{Kind: api.Log, Home: 1})
	}
	if _, e := New(w, 1, c, nil); e != api.ErrLimit {
		t.Error(e)
	}
	if _, e := New(w, 1, c, names("a", api.Ref(9999))); e != api.ErrRef {
		t.Error(e)
	}
}

func TestP18_2Make(t *testing.T) {
	w := lay(t)
	one := func(s string) api.Stmt { return read(t, s)[0] }
	for _, z := range []*world.World{nil, {}} {
		if _, e := Make(z, 9, api.Stmt{}, nil); e != api.ErrNil {
			t.Error(e)
		}
	}
	own := names("c", cell, "big", list(make([]api.Value, 300)...), "n", num(3))
	for _, p := range []struct {
		s     string
		kinds []api.Kind
		with  api.Value
	}{{"x = make cell [ c n ]", []api.Kind{api.Cell}, list(ref(cell), num(3))}, {"x = make cell _", []api.Kind{api.Cell}, none}, {"x = make log", []api.Kind{api.Log}, none}, {"x = make tally", []api.Kind{api.Tally}, none}, {"x = make queue", []api.Kind{api.Queue}, none}, {"x = make mint", []api.Kind{api.Mint}, none},
		{"x = make facet c get", []api.Kind{api.Facet}, ref(cell)}, {"x y = make gate c", []api.Kind{api.Gate, api.Switch}, ref(cell)}, {"x y = make tap c", []api.Kind{api.Tap, api.Tally}, ref(cell)}, {"x y = make seal", []api.Kind{api.Sealer, api.Opener}, none}, {"x y = make promise", []api.Kind{api.Promise, api.Keeper}, none}, {"x = make clerk [ n q c ] { reply it }", []api.Kind{api.Clerk}, none}} {
		d, e := Make(w, 1, one(p.s), own)
		if e != api.OK || d.Kind != api.Built || d.By != 0 || d.On != 0 || d.Base != 0 || d.Able != 0 || d.What != one(p.s).What || !value.Same(d.With, p.with) || !value.Same(d.Answer, none) || len(d.Made) != len(p.kinds) {
			t.Fatal(p.s, d, e)
		}
		for i, r := range d.Made {
			if home, ok := w.Home(r); w.Kind(r) != p.kinds[i] || ok && home != 1 {
				t.Error(p.s, r)
			}
		}
		if want := names("n", num(3), "q", none, "c", cell); p.kinds[0] == api.Clerk && !reflect.DeepEqual(d.Names, want) || p.kinds[0] != api.Clerk && d.Names != nil {
			t.Error(p.s, d.Names)
		}
	}
	before := w.Copy()
	bad := one("x = make clerk [ ] { }")
	bad.Code = []api.Stmt{{Op: api.Let}}
	long := bad
	long.Code = slices.Repeat(read(t, "x = 1"), 513)
	withCode := one("x = make log")
	withCode.Code = read(t, "fail")
	for i, p := range []struct {
		home  api.Side
		s     api.Stmt
		names []api.Name
		e     api.Errno
	}{{2, one("x = make log"), own, api.ErrArg}, {0, one("x = 1"), own, api.ErrArg}, {0, api.Stmt{}, own, api.ErrArg}, {0, one("x y = make seal"), names("a", none, "a", none), api.ErrArg}, {0, withCode, own, api.ErrArg},
		{0, one("x = make cell [ big big ]"), own, api.ErrLimit}, {0, one("x = make facet n get"), own, api.ErrArg}, {0, one("x y = make gate d"), own, api.ErrArg}, {0, one("x y = make tap [ c ]"), own, api.ErrArg}, {0, one("x = make facet [ big big ] get"), own, api.ErrLimit},
		{0, bad, own, api.ErrCode}, {0, long, own, api.ErrLong}, {0, one("x = make cell a"), names("a", api.Ref(99)), api.ErrRef}, {0, one("x y = make gate a"), names("a", api.Ref(99)), api.ErrRef}, {0, one("x = make clerk [ a ] { }"), names("a", api.Ref(99)), api.ErrRef}} {
		if d, e := Make(w, p.home, p.s, p.names); e != p.e || !reflect.DeepEqual(d, api.Deed{}) || !world.Same(w, before) {
			t.Error(i, d, e)
		}
	}
	for w.Made(1) < api.MaxThings-1 {
		w.Make(api.What{Kind: api.Log, Home: 1})
	}
	if _, e := Make(w, 1, one("x y = make seal"), nil); e != api.ErrLimit {
		t.Error(e)
	}
}

func TestP18_3Do(t *testing.T) {
	w := lay(t)
	k := hire(t, w, "x = get c ; y = put c [ x it ] ; reply x", "c", cell)
	deeds := asks(t, w, k, num(1), num(7))
	want := []api.Deed{{Kind: api.Asked, On: k, Base: k, Able: api.Ask, With: num(1)}, {Kind: api.Acted, By: k, On: cell, Base: cell, Able: api.Get, Answer: num(7)},
		{Kind: api.Acted, By: k, On: cell, Base: cell, Able: api.Put, With: list(num(7), num(1))}, {Kind: api.Answered, On: k, Base: k, Able: api.Ask, Answer: num(7)}}
	if !reflect.DeepEqual(deeds, want) {
		t.Error(deeds)
	}
	v, deeds, err := Do(w, 0, cell, api.Get, none)
	if err != nil || !value.Same(v, list(num(7), num(1))) || len(deeds) != 1 || deeds[0].Kind != api.Acted || deeds[0].By != 0 {
		t.Error(v, deeds, err)
	}
	f := hire(t, w, "x = put c 0 ; fail", "c", cell)
	asks(t, w, f, none, none, api.ErrClerk, api.ErrFail)
	n := hire(t, w, "x = ask n 1")
	asks(t, w, n, none, none, api.ErrClerk, api.ErrArg)
	m := hire(t, w, "reply it")
	x, _ := w.What(m)
	x.Code, x.Names = read(t, "x = ask me 1"), names("me", m)
	w.Lay(m, x)
	asks(t, w, m, none, none, api.ErrClerk, api.ErrClerk, api.ErrBusy)
	for i, p := range []struct {
		r  api.Ref
		by api.Able
		v  api.Value
		e  api.Errno
	}{{99, api.Ask, none, api.ErrRef}, {k, api.Get, none, api.ErrUnable}, {k, api.Ask, ref(0), api.ErrArg}, {k, api.Ask, ref(99), api.ErrRef}, {cell, 3, none, api.ErrArg}} {
		if v, deeds, err := Do(w, 0, p.r, p.by, p.v); !slices.Equal(codes(err), []api.Errno{p.e}) || deeds != nil || v.Kind != api.Nothing {
			t.Error(i, v, err)
		}
	}
	for _, z := range []*world.World{nil, {}} {
		if _, _, err := Do(z, 0, 1, api.Get, none); !slices.Equal(codes(err), []api.Errno{api.ErrNil}) {
			t.Error(err)
		}
	}
}

func TestP18_3Statements(t *testing.T) {
	w := lay(t)
	q, _ := w.Make(api.What{Kind: api.Queue})
	p, _ := w.Make(api.What{Kind: api.Promise})
	keeper, _ := w.Make(api.What{Kind: api.Keeper, Of: p})
	own := []any{"c", cell, "q", q, "p", p, "k", keeper, "big", list(make([]api.Value, 300)...)}
	for _, c := range []struct {
		s      string
		want   api.Value
		faults []api.Errno
	}{
		{"reply [ it nobody ]", list(num(5), none), nil}, {"x = 1", none, nil}, {"", none, nil}, {"reply 1 ; fail", num(1), nil}, {"x = part [ 1 2 ] 1 ; reply x", num(2), nil}, {"x = part [ 1 2 ] 2", none, []api.Errno{api.ErrArg}}, {"x = part [ 1 ] -1", none, []api.Errno{api.ErrArg}}, {"x = part 1 0", none, []api.Errno{api.ErrArg}},
		{"x = part [ 1 ] \"0\"", none, []api.Errno{api.ErrArg}}, {"if same it 5 { reply 1 } else { reply 2 }", num(1), nil}, {"if same it 6 { reply 1 } else { reply 2 } ; reply 3", num(2), nil}, {"if same c c { x = 1 } else { x = 2 } ; reply x", num(1), nil},
		{"if can c get + put { reply 1 } else { reply 2 }", num(1), nil}, {"if can c get + take { reply 1 } else { reply 2 }", num(2), nil}, {"if can it _ { reply 1 } else { reply 2 }", num(2), nil}, {"if can c _ { reply 1 } else { reply 2 }", num(1), nil}, {"x = await p", none, []api.Errno{api.ErrOpen}}, {"x = await it", none, []api.Errno{api.ErrArg}},
		{"x = give k 3 ; y = await p ; reply y", num(3), nil}, {"x = [ big big ]", none, []api.Errno{api.ErrLimit}}, {"x = put it [ big big ]", none, []api.Errno{api.ErrLimit}}, {"x = put [ big big ] 1", none, []api.Errno{api.ErrLimit}}, {"if same [ big big ] 1 { } else { }", none, []api.Errno{api.ErrLimit}}, {"reply [ big big ]", none, []api.Errno{api.ErrLimit}},
		{"x = take c 1", none, []api.Errno{api.ErrUnable}}, {"x = take q 1", none, []api.Errno{api.ErrShort}}, {"x = put 3 1", none, []api.Errno{api.ErrArg}}, {"x = make facet it get", none, []api.Errno{api.ErrArg}}, {"fail", none, []api.Errno{api.ErrFail}}, {"x = make log ; y = give x 1 ; z = get x ; reply z", list(num(1)), nil},
		{"x y = make seal ; b = ask x 9 ; z = ask y b ; reply z", num(9), nil}, {"x = make clerk [ c ] { y = get c ; reply y } ; y = ask x _ ; reply y", num(7), nil},
	} {
		v := w.Copy()
		k := hire(t, v, c.s, own...)
		if c.faults != nil {
			c.faults = append([]api.Errno{api.ErrClerk}, c.faults...)
		}
		asks(t, v, k, num(5), c.want, c.faults...)
	}
	k := hire(t, w, "m = make mint ; p = ask m 5 ; r = take p 2 ; s o = make seal ; b = ask s r ; f = make facet p get ; l = make clerk [ p ] { }")
	deeds := asks(t, w, k, none, none)
	if !slices.Equal(kinds(deeds), []api.DeedKind{api.Asked, api.Built, api.Acted, api.Acted, api.Built, api.Acted, api.Built, api.Built, api.Answered}) {
		t.Fatal(kinds(deeds))
	}
	x, _ := w.What(k)
	get := func(n string) api.Ref { v, _ := code.Get(x.Names, n); return v.R }
	for i, name := range map[int]string{1: "m", 2: "p", 3: "r", 5: "b", 6: "f", 7: "l"} {
		if !slices.Equal(deeds[i].Made, []api.Ref{get(name)}) || deeds[i].By != k {
			t.Error(i, deeds[i])
		}
	}
	if !slices.Equal(deeds[4].Made, []api.Ref{get("s"), get("o")}) || !reflect.DeepEqual(deeds[7].Names, names("p", get("p"))) || !value.Same(deeds[6].With, ref(get("p"))) {
		t.Error(deeds[4], deeds[7])
	}
}

func TestP18_4Names(t *testing.T) {
	w := lay(t)
	k := hire(t, w, "if same n _ { n = 1 } else { n = [ n ] } ; reply n")
	asks(t, w, k, num(4), num(1))
	asks(t, w, k, num(5), list(num(1)))
	x, _ := w.What(k)
	if !reflect.DeepEqual(x.Names, names("it", num(5), "n", list(num(1)))) {
		t.Error(x.Names)
	}
	f := hire(t, w, "n = 9 ; x = get c ; if same it 1 { fail } else { }", "c", cell)
	asks(t, w, f, num(1), none, api.ErrClerk, api.ErrFail)
	if x, _ := w.What(f); !reflect.DeepEqual(x.Names, names("c", cell)) {
		t.Error(x.Names)
	}
	var many []any
	for i := range 64 {
		many = append(many, fmt.Sprint("n", i), num(int64(i)))
	}
	full := hire(t, w, "reply it", many...)
	asks(t, w, full, none, none, api.ErrClerk, api.ErrLimit)
	for s, faults := range map[string][]api.Errno{"x = 1": {api.ErrClerk, api.ErrLimit}, "n1 = 1": nil, "n1 y = make seal": {api.ErrClerk, api.ErrLimit}, "x = get 3": {api.ErrClerk, api.ErrLimit}, "n1 n2 = make seal": nil} {
		full := hire(t, w, s, many[:126]...)
		last := w.Tell().Last
		asks(t, w, full, none, none, faults...)
		if faults != nil && w.Tell().Last != last {
			t.Error(s, "something was made")
		}
	}
	almost := hire(t, w, "x y = make seal", many[:124]...)
	asks(t, w, almost, none, none, api.ErrClerk, api.ErrLimit)
	for i, turn := range []func(x *api.What){func(x *api.What) { x.Names = names("A", none) }, func(x *api.What) { x.Names = names("a", none, "a", none) }, func(x *api.What) { x.Code = []api.Stmt{{Op: api.Let}} }} {
		k := hire(t, w, "reply 1")
		x, _ := w.What(k)
		turn(&x)
		if e := w.Lay(k, x); e != api.OK {
			t.Fatal(e)
		}
		asks(t, w, k, none, none, api.ErrClerk, []api.Errno{api.ErrArg, api.ErrArg, api.ErrCode}[i])
		if cost, _ := Cost(w, 0, k, api.Ask, none); cost != (api.Cost{Deep: 1}) {
			t.Error(i, cost)
		}
	}
}

func TestP18_4Way(t *testing.T) {
	w := lay(t)
	k := hire(t, w, "x = get c ; reply x", "c", cell)
	far, _ := New(w, 1, read(t, "x = get c ; reply x"), names("c", cell))
	w.CutEdge(1)
	asks(t, w, k, none, num(7))
	if _, _, err := Do(w, 1, far, api.Ask, none); !slices.Equal(codes(err), []api.Errno{api.ErrClerk, api.ErrCut}) {
		t.Error(codes(err))
	}
	if _, _, err := Do(w, 1, k, api.Ask, none); !slices.Equal(codes(err), []api.Errno{api.ErrCut}) {
		t.Error(codes(err))
	}
}

func TestP18_5Thing(t *testing.T) {
	w := lay(t)
	k := hire(t, w, "x = put c it ; reply 3", "c", cell)
	for _, c := range []struct {
		w    *world.World
		from api.Side
		r    api.Ref
		e    api.Errno
	}{{nil, 9, 0, api.ErrNil}, {w, 2, 99, api.ErrArg}, {w, 0, 99, api.ErrRef}} {
		if th, e := Thing(c.w, c.from, c.r); th != nil || e != c.e {
			t.Error(th, e)
		}
	}
	a, _ := Thing(w, 0, k)
	b, _ := Thing(w, 0, k)
	far, _ := Thing(w, 1, k)
	other, _ := act.Thing(w, 0, k)
	copied, _ := Thing(w.Copy(), 0, k)
	if a != b || a == far || a == other || a == copied {
		t.Error("equal")
	}
	if _, ok := a.(api.Getter); ok {
		t.Error("a getter")
	}
	if v, err := a.(api.Asker).Ask(num(8)); err != nil || v.N != 3 {
		t.Error(v, err)
	}
	c, _ := Thing(w, 0, cell)
	if v, err := c.(api.Getter).Get(); err != nil || v.N != 8 {
		t.Error(v, err)
	}
	if _, err := a.(api.Asker).Ask(ref(0)); err != api.ErrArg {
		t.Error(err)
	}
	func() {
		defer func() {
			if _, ok := recover().(runtime.Error); !ok {
				t.Error("no panic")
			}
		}()
		_ = a.(api.Putter)
	}()
}

// row makes n clerks, each of which asks the next one.
func row(t *testing.T, w *world.World, n int) api.Ref {
	t.Helper()
	k := hire(t, w, "reply it")
	for ; n > 1; n-- {
		k = hire(t, w, "x = ask k it ; reply x", "k", k)
	}
	return k
}

func TestP18_6Cost(t *testing.T) {
	w := lay(t)
	k := hire(t, w, "x = get c ; y = put c [ x it ] ; reply x", "c", cell)
	f := hire(t, w, "x = put c 0 ; fail ; y = 1", "c", cell)
	before := w.Copy()
	cost := func(r api.Ref, want api.Cost, faults ...api.Errno) {
		t.Helper()
		got, err := Cost(w, 0, r, api.Ask, none)
		if got != want || !slices.Equal(codes(err), faults) {
			t.Error(got, codes(err))
		}
	}
	cost(k, api.Cost{Steps: 3, Deep: 1, Clerks: 1})
	cost(f, api.Cost{Steps: 2, Deep: 1, Clerks: 1}, api.ErrClerk, api.ErrFail)
	cost(cell, api.Cost{}, api.ErrUnable)
	if !world.Same(w, before) {
		t.Error("something was done")
	}
	cost(row(t, w, 16), api.Cost{Steps: 31, Deep: 16, Clerks: 16})
	asks(t, w, row(t, w, 16), num(4), num(4))
	deep := append(slices.Repeat([]api.Errno{api.ErrClerk}, 17), api.ErrDeep)
	cost(row(t, w, 17), api.Cost{Steps: 16, Deep: 16, Clerks: 16}, deep...)
	asks(t, w, row(t, w, 17), num(4), none, deep...)
	two := hire(t, w, "x = ask k it ; y = ask k it ; if same 1 1 { z = 1 } else { }", "k", k)
	cost(two, api.Cost{Steps: 10, Deep: 2, Clerks: 3})
	asked := hire(t, w, "reply it")
	bad, _ := w.What(asked)
	bad.Code = []api.Stmt{{Op: api.Let}}
	w.Lay(asked, bad)
	cost(hire(t, w, "x = ask k it", "k", asked), api.Cost{Steps: 1, Deep: 2, Clerks: 1}, api.ErrClerk, api.ErrClerk, api.ErrCode)
	if got, err := Cost(nil, 0, 1, api.Get, none); got != (api.Cost{}) || !slices.Equal(codes(err), []api.Errno{api.ErrNil}) {
		t.Error(got, err)
	}
}

func TestP18_6Steps(t *testing.T) {
	w := lay(t)
	// Clerks of 511 and of 510 statements: with those of who asks them 7 * 512 + 511 + 1 are 4096.
	n := hire(t, w, strings.Repeat("x = 1 ; ", 510)+"reply x")
	short := hire(t, w, strings.Repeat("x = 1 ; ", 509)+"reply x")
	all := strings.Repeat("x = ask k it ; ", 7) + "x = ask j it ; x = 1"
	for more, faults := range map[string][]api.Errno{"": nil, " ; x = 1": {api.ErrClerk, api.ErrSteps}} {
		k := hire(t, w, all+more, "k", n, "j", short)
		asks(t, w, k, none, none, faults...)
		if got, _ := Cost(w, 0, k, api.Ask, none); got != (api.Cost{Steps: 4096, Deep: 2, Clerks: 9}) {
			t.Error(got)
		}
	}
}

func TestP18_6StepsWithin(t *testing.T) {
	w := lay(t)
	n := hire(t, w, strings.Repeat("x = 1 ; ", 510)+"reply x")
	k := hire(t, w, strings.Repeat("x = ask k it ; ", 8)+"x = ask k it", "k", n)
	asks(t, w, k, none, none, api.ErrClerk, api.ErrSteps)
	j := hire(t, w, "x = 1 ; "+strings.Repeat("x = ask k it ; ", 8)+"x = ask k it", "k", n)
	asks(t, w, j, none, none, api.ErrClerk, api.ErrClerk, api.ErrSteps)
	if got, _ := Cost(w, 0, j, api.Ask, none); got != (api.Cost{Steps: 4096, Deep: 2, Clerks: 9}) {
		t.Error(got)
	}
}

// wild makes a world of clerks that do this and that.
func wild(t *testing.T, r *rand.Rand) *world.World {
	w := lay(t)
	act.Make(w, 0, api.Making{Kind: api.Queue})
	act.Make(w, 1, api.Making{Kind: api.Mint})
	act.Make(w, 0, api.Making{Kind: api.Tap, Of: cell})
	texts := []string{"x = get a ; reply x", "x = put a it", "x = ask a it ; y = ask b x ; reply [ x y ]", "x = make cell it ; y = put a x ; reply x", "x y = make seal ; z = ask x b ; reply [ y z ]", "x y = make tap a ; z = get x ; reply y",
		"x = give a it ; y = take a 1 ; z = part y 0 ; reply z", "x = ask a 3 ; y = take x 1 ; reply y", "if can it ask { x = ask it 1 } else { x = put a it } ; reply x", "x y = make gate a ; z = get x ; v = cut y ; reply x", "n = make clerk [ a ] { x = get a ; reply x } ; y = ask n 1 ; reply n", "x = make facet a get ; reply x"}
	for range 12 {
		some := func() api.Ref { return api.Ref(1 + r.Intn(w.Len())) }
		k, e := New(w, api.Side(r.Intn(2)), read(t, texts[r.Intn(len(texts))]), names("a", some(), "b", some()))
		if e != api.OK {
			t.Fatal(e)
		}
		if r.Intn(3) == 0 {
			act.Make(w, 0, api.Making{Kind: api.Tap, Of: k})
		}
	}
	return w
}

func TestP18_7Whole(t *testing.T) {
	r := rand.New(rand.NewSource(1))
	for range 60 {
		w := wild(t, r)
		for range 40 {
			before := w.Copy()
			if _, deeds, err := Do(w, 0, api.Ref(1+r.Intn(w.Len())), api.Ask, []api.Value{num(1), ref(api.Ref(1 + r.Intn(w.Len())))}[r.Intn(2)]); err != nil && (!world.Same(w, before) || deeds != nil) {
				t.Fatal(err)
			}
		}
	}
}

// again does what the deeds tell, one by one, on w.
func again(t *testing.T, w *world.World, from api.Side, deeds []api.Deed) {
	t.Helper()
	for _, d := range deeds {
		home, ok := w.Home(d.By)
		if !ok {
			home = from
		}
		switch d.Kind {
		case api.Acted:
			v, err := act.Do(w, home, d.On, d.Able, d.With, nil)
			if err != nil || !value.Same(v, d.Answer) {
				t.Fatal(d, v, err)
			}
		case api.Answered:
			v, err := act.Do(w, home, d.On, d.Able, none, func(*world.World, api.Ref, api.Value) (api.Value, error) { return d.Answer, nil })
			if err != nil || !value.Same(v, d.Answer) {
				t.Fatal(d, v, err)
			}
		case api.Built:
			var made []api.Ref
			if d.What == api.Clerk {
				x, _ := w.Make(api.What{Kind: api.Clerk, Home: home, Names: d.Names})
				made = []api.Ref{x}
			} else {
				x := api.Making{Kind: d.What, Value: d.With}
				switch d.What {
				case api.Facet:
					x.Value, x.Of, x.Set = none, d.With.R, api.Get
				case api.Gate, api.Tap:
					x.Value, x.Of = none, d.With.R
				}
				made, _ = act.Make(w, home, x)
			}
			if !slices.Equal(made, d.Made) {
				t.Fatal(d, made)
			}
		}
	}
}

func TestP18_8Deeds(t *testing.T) {
	r := rand.New(rand.NewSource(2))
	went := 0
	for range 150 {
		w := wild(t, r)
		copied := w.Copy()
		from := api.Side(r.Intn(2))
		_, deeds, err := Do(w, from, api.Ref(1+r.Intn(w.Len())), api.Ask, num(1))
		if err != nil {
			continue
		}
		went++
		again(t, copied, from, deeds)
		for q, kind := range w.Things() {
			x, _ := w.What(q)
			y, _ := copied.What(q)
			if kind == api.Clerk {
				y.Names, y.Code = x.Names, x.Code
				copied.Lay(q, y)
			}
		}
		if !world.Same(w, copied) {
			t.Error("another world")
		}
	}
	if went < 20 {
		t.Error("too few went well", went)
	}
}

func TestP18_9NothingMore(t *testing.T) {
	r := rand.New(rand.NewSource(3))
	for range 200 {
		w := wild(t, r)
		before := w.Copy()
		_, deeds, err := Do(w, 0, api.Ref(1+r.Intn(w.Len())), api.Ask, num(1))
		if err != nil {
			continue
		}
		has := map[api.Ref]map[api.Ref]bool{}
		of := func(k api.Ref) map[api.Ref]bool {
			if has[k] == nil {
				has[k] = map[api.Ref]bool{}
				x, _ := before.What(k)
				for _, n := range x.Names {
					for _, q := range value.Refs(n.Value) {
						has[k][q] = true
					}
				}
			}
			return has[k]
		}
		for _, d := range deeds {
			if d.By != 0 && d.Kind != api.Answered {
				x, _ := w.What(d.By)
				uses, _ := code.Uses(x.Code)
				if d.Able&^uses.Able != 0 || d.Kind == api.Built && !uses.Makes {
					t.Error(d, uses)
				}
				for _, q := range append(value.Refs(d.With), d.On) {
					if q != 0 && !of(d.By)[q] {
						t.Error("out of nothing", d, q)
					}
				}
			}
			if d.Kind == api.Asked {
				for _, q := range value.Refs(d.With) {
					of(d.Base)[q] = true
				}
				continue
			}
			for _, q := range append(value.Refs(d.Answer), d.Made...) {
				of(d.By)[q] = true
			}
			if d.What == api.Clerk {
				for _, n := range d.Names {
					for _, q := range value.Refs(n.Value) {
						of(d.Made[0])[q] = true
					}
				}
			}
		}
	}
}

func TestP18_10Wrapper(t *testing.T) {
	w := lay(t)
	q, _ := w.Make(api.What{Kind: api.Queue})
	k := hire(t, w, "x = get c ; reply x", "c", cell)
	j := hire(t, w, "x = get c ; reply x", "c", q)
	asks(t, w, k, none, num(7))
	asks(t, w, j, none, none, api.ErrClerk, api.ErrUnable)
	if _, _, err := Do(w, 0, k, api.Put, num(1)); !slices.Equal(codes(err), []api.Errno{api.ErrUnable}) {
		t.Error(err)
	}
}
