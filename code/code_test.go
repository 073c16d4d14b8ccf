package code

import (
	"math/rand"
	"reflect"
	"slices"
	"strings"
	"testing"

	"postern/api"
	"postern/value"
)

func num(n int64) api.Value             { return api.Value{Kind: api.Number, N: n} }
func ref(r api.Ref) api.Value           { return api.Value{Kind: api.Reference, R: r} }
func list(l ...api.Value) api.Value     { return api.Value{Kind: api.List, L: l} }
func en(s string) api.Expr              { return api.Expr{Kind: api.EName, S: s} }
func enum(n int64) api.Expr             { return api.Expr{Kind: api.ENumber, N: n} }
func etext(s string) api.Expr           { return api.Expr{Kind: api.EText, S: s} }
func el(l ...api.Expr) api.Expr         { return api.Expr{Kind: api.EList, L: l} }
func let(n string, a api.Expr) api.Stmt { return api.Stmt{Op: api.Let, Name: n, A: a} }
func act(n string, by api.Able, a api.Expr, b ...api.Expr) api.Stmt {
	s := api.Stmt{Op: api.Act, Name: n, Able: by, A: a}
	if len(b) > 0 {
		s.B = b[0]
	}
	return s
}
func same(a, b api.Expr, then, els []api.Stmt) api.Stmt {
	return api.Stmt{Op: api.Same, A: a, B: b, Then: then, Else: els}
}
func clerk(n string, code []api.Stmt, with ...string) api.Stmt {
	return api.Stmt{Op: api.Make, What: api.Clerk, Name: n, Code: code, With: with}
}
func reply(a api.Expr) api.Stmt  { return api.Stmt{Op: api.Reply, A: a} }
func c(l ...api.Stmt) []api.Stmt { return l }
func deep(n int) api.Expr {
	e := el()
	for ; n > 1; n-- {
		e = el(e)
	}
	return e
}
func wide(n int) api.Expr {
	e := el()
	for range n {
		e.L = append(e.L, enum(1))
	}
	return e
}
func lets(n int) []api.Stmt {
	var l []api.Stmt
	for range n {
		l = append(l, let("x", enum(1)))
	}
	return l
}

var none = api.Expr{}

func badExprs() []api.Expr {
	endless := el(none)
	endless.L[0] = endless
	return []api.Expr{{N: 1}, {Kind: 5}, {L: []api.Expr{enum(1)}}, {S: "a"}, {Kind: api.ENumber, S: "a"}, {Kind: api.ENumber, L: []api.Expr{enum(1)}}, {Kind: api.EText, N: 1}, {Kind: api.EText, L: []api.Expr{enum(1)}},
		etext(strings.Repeat("a", 257)), {Kind: api.EList, N: 1}, {Kind: api.EList, S: "a"}, en(""), en("A"), en("1a"), en(strings.Repeat("a", 33)), {Kind: api.EName, S: "a", N: 1}, {Kind: api.EName, S: "a", L: []api.Expr{enum(1)}},
		deep(17), wide(512), el(none), el(en("a b")), endless}
}

func goodExprs() []api.Expr {
	return []api.Expr{enum(0), enum(-1), etext(""), etext(strings.Repeat("\xff", 256)), el(), en("a"), en(strings.Repeat("a", 32)), deep(16), wide(511), el(el(en("x")), enum(1)), {Kind: api.ENumber, L: []api.Expr{}}}
}

func TestP16_4Exprs(t *testing.T) {
	for s, want := range map[string]bool{"a1": true, "1a": false, "": false, "A": false, strings.Repeat("a", 33): false, strings.Repeat("a", 32): true, "a_": false, "z9z": true, "é": false, "a ": false, "get": true} {
		if MayName(s) != want {
			t.Error(s)
		}
	}
	for i, e := range badExprs() {
		if MayExpr(e) {
			t.Error(i)
		}
		if v, err := Work(nil, e); err != api.ErrArg || v.Kind != api.Nothing {
			t.Error(i, v, err)
		}
	}
	if MayExpr(none) {
		t.Error("none")
	}
	for i, e := range goodExprs() {
		if _, err := Work(nil, e); !MayExpr(e) || err != api.OK {
			t.Error(i)
		}
	}
	var many []api.Name
	for i := range 65 {
		many = append(many, api.Name{Name: "a" + strings.Repeat("b", i%30) + string(rune('a'+i/30))})
	}
	for i, l := range [][]api.Name{many, {{Name: "a"}, {Name: "a"}}, {{Name: ""}}, {{Name: "A"}}, {{Name: "a", Value: ref(0)}}} {
		if MayNames(l) {
			t.Error(i)
		}
		_, e1 := Work(l, none)
		_, e2 := Set(l, "x", num(1))
		_, e3 := Only(l, nil)
		if e1 != api.ErrArg || e2 != api.ErrArg || e3 != api.ErrArg {
			t.Error(i, e1, e2, e3)
		}
	}
	if !MayNames(many[:64]) || !MayNames(nil) || !MayNames([]api.Name{{Name: "it", Value: ref(5)}}) {
		t.Error("names")
	}
}

func TestP16_4Work(t *testing.T) {
	big := list(make([]api.Value, 299)...)
	names := []api.Name{{Name: "x", Value: num(7)}, {Name: "big", Value: big}, {Name: "r", Value: list(ref(3))}}
	for i, c := range []struct {
		e    api.Expr
		want api.Value
		err  api.Errno
	}{{el(en("x"), enum(1)), list(num(7), num(1)), 0}, {el(en("big"), en("big")), api.Value{}, api.ErrLimit}, {el(en("big")), list(big), 0}, {none, api.Value{}, 0}, {en("y"), api.Value{}, 0}, {el(en("y"), en("r")), list(api.Value{}, list(ref(3))), 0},
		{etext("a"), api.Value{Kind: api.Text, S: "a"}, 0}, {el(el(en("big"), en("big")), enum(1)), api.Value{}, api.ErrLimit}, {el(), list(), 0}, {wide(511), list(slices.Repeat([]api.Value{num(1)}, 511)...), 0}} {
		if v, err := Work(names, c.e); err != c.err || !value.Same(v, c.want) {
			t.Error(i, err)
		}
	}
	tower := list()
	for range 15 {
		tower = list(tower)
	}
	if _, err := Work([]api.Name{{Name: "t", Value: tower}}, el(en("t"))); err != api.ErrLimit {
		t.Error(err)
	}
	v, _ := Work(names, en("r"))
	v.L[0] = num(1)
	if names[2].Value.L[0].R != 3 {
		t.Error("shared")
	}
	many := el()
	for range 511 {
		many.L = append(many.L, en("big"))
	}
	if _, err := Work(names, many); err != api.ErrLimit {
		t.Error(err)
	}
}

// good are statements that may be, one of each form.
func good() []api.Stmt {
	mk := func(k api.Kind) api.Stmt { return api.Stmt{Op: api.Make, Name: "n", What: k} }
	two := func(k api.Kind, a api.Expr) api.Stmt {
		return api.Stmt{Op: api.Make, Name: "n", Second: "m", What: k, A: a}
	}
	return []api.Stmt{
		let("x", none), let("x", en("y")), act("x", api.Get, en("y")), act("x", api.Cut, en("y")), act("x", api.Put, en("y")), act("x", api.Take, en("y"), enum(1)), act("get", api.Ask, enum(3), el()), act("x", api.Give, en("y"), en("z")),
		mk(api.Cell), {Op: api.Make, Name: "n", What: api.Cell, A: en("a")}, mk(api.Log), mk(api.Tally), mk(api.Queue), mk(api.Mint), {Op: api.Make, Name: "n", What: api.Facet, A: en("a")}, {Op: api.Make, Name: "n", What: api.Facet, A: en("a"), Able: 63},
		two(api.Gate, en("a")), two(api.Tap, en("a")), two(api.Sealer, none), two(api.Promise, none), clerk("k", nil), clerk("k", c(reply(en("it"))), "a", "b"),
		{Op: api.Part, Name: "x", A: en("a"), B: enum(0)}, same(none, none, nil, nil), same(en("a"), en("b"), lets(1), lets(1)), {Op: api.Can, A: en("a")}, {Op: api.Can, A: en("a"), Able: 63, Then: lets(1), Else: lets(1)},
		reply(none), reply(en("a")), {Op: api.Fail}, {Op: api.Await, Name: "x", A: en("p")},
	}
}

// bad are statements that may not be.
func bad() []api.Stmt {
	l := []api.Stmt{{}, {Op: 10}, {Op: 255}, let("", none), let("A", none), let("x", el(none)), act("", api.Get, en("y")), act("x", 0, en("y")), act("x", 3, en("y")), act("x", 64, en("y")), act("x", api.Get, none), act("x", api.Get, en("y"), enum(1)), act("x", api.Cut, en("y"), enum(1)),
		act("x", api.Put, none, enum(1)), {Op: api.Make, Name: "n"}, {Op: api.Make, Name: "n", What: api.Box}, {Op: api.Make, Name: "n", What: api.Opener}, {Op: api.Make, Name: "n", What: api.Keeper}, {Op: api.Make, Name: "n", What: api.Purse}, {Op: api.Make, Name: "n", What: api.Switch},
		{Op: api.Make, Name: "n", What: 17}, {Op: api.Make, Name: "n", What: api.Facet}, {Op: api.Make, Name: "n", What: api.Facet, A: en("a"), Able: 64}, {Op: api.Make, Name: "n", What: api.Gate, A: en("a")}, {Op: api.Make, Name: "n", Second: "m", What: api.Gate},
		{Op: api.Make, Name: "n", Second: "n", What: api.Gate, A: en("a")}, {Op: api.Make, Name: "n", Second: "A", What: api.Sealer}, {Op: api.Make, Name: "n", What: api.Promise}, {Op: api.Make, Second: "n", What: api.Promise}, {Op: api.Make, Name: "n", Second: "m", What: api.Log}, {Op: api.Make, Name: "n", What: api.Log, A: en("a")},
		clerk("k", nil, "a", "a"), clerk("k", nil, "A"), clerk("k", nil, make([]string, 65)...), {Op: api.Part, Name: "x", A: en("a")}, {Op: api.Part, Name: "x", B: en("a")}, {Op: api.Part, A: en("a"), B: en("a")}, {Op: api.Can}, {Op: api.Can, A: en("a"), Able: 64}, {Op: api.Await, Name: "x"}, {Op: api.Await, A: en("p")}, {Op: api.Reply, A: en("")}}
	var names []string
	for i := range 65 {
		names = append(names, "a"+strings.Repeat("b", i%30)+string(rune('a'+i/30)))
	}
	l = append(l, clerk("k", nil, names...))
	for _, s := range good() {
		for bit, turn := range map[fields]func(*api.Stmt){hasName: func(s *api.Stmt) { s.Name = "q" }, hasSecond: func(s *api.Stmt) { s.Second = "q" }, hasAble: func(s *api.Stmt) { s.Able = 1 }, hasWhat: func(s *api.Stmt) { s.What = api.Cell }, hasA: func(s *api.Stmt) { s.A = enum(1) },
			hasB: func(s *api.Stmt) { s.B = enum(1) }, hasThen: func(s *api.Stmt) { s.Then = lets(1) }, hasElse: func(s *api.Stmt) { s.Else = lets(1) }, hasCode: func(s *api.Stmt) { s.Code = lets(1) }, hasWith: func(s *api.Stmt) { s.With = []string{"q"} }} {
			x := s
			turn(&x)
			mayHave := map[api.Op]fields{api.Let: hasName | hasA, api.Act: hasName | hasAble | hasA | hasB, api.Make: 0xffff, api.Part: hasName | hasA | hasB, api.Same: hasA | hasB | hasThen | hasElse, api.Can: hasA | hasAble | hasThen | hasElse, api.Reply: hasA, api.Await: hasName | hasA}[s.Op]
			if bit&mayHave == 0 {
				l = append(l, x)
			}
		}
	}
	for _, k := range []api.Kind{api.Log, api.Sealer, api.Gate, api.Cell, api.Facet, api.Clerk} {
		x := api.Stmt{Op: api.Make, Name: "n", What: k, B: enum(1)}
		y := api.Stmt{Op: api.Make, Name: "n", What: k, Then: lets(1)}
		l = append(l, x, y)
	}
	return l
}

func TestP16_1Check(t *testing.T) {
	for i, s := range good() {
		if at, e := Check(c(s)); at != 0 || e != api.OK || !May(c(s)) {
			t.Error(i, s, at, e)
		}
	}
	for i, s := range bad() {
		if at, e := Check(c(let("x", none), s)); at != 1 || e != api.ErrCode || May(c(s)) || Size(c(s)) != 0 {
			t.Error(i, s, at, e)
		}
	}
	branches := c(same(en("x"), en("y"), c(let("a", enum(1))), c(let("B", enum(2)))))
	if at, e := Check(branches); at != 2 || e != api.ErrCode {
		t.Error(at, e)
	}
	branches[0].Else[0].Name = "b"
	if at, e := Check(branches); at != 0 || e != api.OK || Size(branches) != 3 {
		t.Error(at, e)
	}
	nested := c(clerk("k", c(clerk("k", c(let("A", none))))), let("", none))
	if at, e := Check(nested); at != 2 || e != api.ErrCode {
		t.Error(at, e)
	}
	if _, e := Check(lets(512)); e != api.OK || Size(lets(512)) != 512 || Size(nil) != 0 || !May(nil) {
		t.Error(e)
	}
	if at, e := Check(append(lets(512), let("", none))); at != 512 || e != api.ErrLong {
		t.Error(at, e)
	}
	if at, e := Check(append(append(lets(511), let("", none)), lets(9)...)); at != 511 || e != api.ErrCode {
		t.Error(at, e)
	}
	endless := c(same(none, none, nil, nil))
	endless[0].Then = endless
	if at, e := Check(endless); at != 512 || e != api.ErrLong || May(endless) || Size(endless) != 0 {
		t.Error(at, e)
	}
	if at, e := Check(c(same(none, none, lets(255), lets(255)), let("x", none))); at != 0 || e != api.OK {
		t.Error(at, e)
	}
	if at, e := Check(c(same(none, none, lets(255), lets(256)), let("x", none))); at != 512 || e != api.ErrLong {
		t.Error(at, e)
	}
}

func TestP16_2EachOwnSame(t *testing.T) {
	x := c(same(en("a"), none, c(let("b", enum(1)), clerk("k", c(reply(en("it"))), "b")), c(let("d", el(en("e"))))), let("f", none))
	var deeps []int
	var ops []api.Op
	for d, s := range Each(x) {
		deeps, ops = append(deeps, d), append(ops, s.Op)
		for i := range s.Then {
			s.Then[i].Name = "zz"
		}
		for i := range s.With {
			s.With[i] = "zz"
		}
		for i := range s.A.L {
			s.A.L[i] = enum(99)
		}
	}
	if !slices.Equal(deeps, []int{0, 1, 1, 2, 1, 0}) || !slices.Equal(ops, []api.Op{api.Same, api.Let, api.Make, api.Reply, api.Let, api.Let}) {
		t.Error(deeps, ops)
	}
	for range Each(x) {
		break
	}
	own, e := Own(x)
	if e != api.OK || !Same(own, x) || !reflect.DeepEqual(own, x) {
		t.Error(e)
	}
	own[0].Then[1].With[0], own[0].Then[1].Code[0].A.S, own[0].Else[0].A.L[0].S = "q", "q", "q"
	if x[0].Then[1].With[0] != "b" || x[0].Then[1].Code[0].A.S != "it" || x[0].Else[0].A.L[0].S != "e" || Same(own, x) {
		t.Error("shared")
	}
	for _, y := range [][]api.Stmt{c(let("", none)), lets(513)} {
		_, want := Check(y)
		if l, e := Own(y); l != nil || e != want || Same(y, y) || Same(y, nil) || Same(nil, y) {
			t.Error(e)
		}
		for range Each(y) {
			t.Error("told")
		}
		if u, e := Uses(y); e != want || u != (api.Uses{}) {
			t.Error(u, e)
		}
		if l, e := Sets(y); e != want || l != nil {
			t.Error(l, e)
		}
		if l, e := Reads(y); e != want || l != nil {
			t.Error(l, e)
		}
	}
	if !Same(nil, []api.Stmt{}) || !Same(c(same(none, none, nil, nil)), c(same(none, none, []api.Stmt{}, []api.Stmt{}))) {
		t.Error("lists of nothing and none")
	}
	l := good()
	for i := range l {
		for j := range l {
			if Same(l[i:i+1], l[j:j+1]) != (i == j) {
				t.Error(i, j)
			}
		}
	}
	if Same(c(let("x", enum(1))), c(let("x", enum(2)))) || Same(c(let("x", el(enum(1)))), c(let("x", el()))) || Same(lets(1), lets(2)) {
		t.Error("same")
	}
}

func TestP16_3Uses(t *testing.T) {
	x := c(act("x", api.Get, en("y")), clerk("z", c(reply(en("it")))))
	if u, e := Uses(x); e != api.OK || u != (api.Uses{Able: api.Get, Makes: true, Replies: true}) {
		t.Error(u, e)
	}
	for i, p := range []struct {
		code []api.Stmt
		want api.Uses
	}{{nil, api.Uses{}}, {c(reply(none), reply(enum(1)), reply(el(etext("a")))), api.Uses{}}, {c(reply(el(enum(1), el(en("a"))))), api.Uses{Replies: true}}, {c(api.Stmt{Op: api.Await, Name: "x", A: en("p")}), api.Uses{Able: api.Get}},
		{c(same(none, none, c(act("x", api.Cut, en("y"))), c(act("x", api.Give, en("y"))))), api.Uses{Able: api.Cut | api.Give}}, {c(api.Stmt{Op: api.Can, A: en("x"), Able: 63}), api.Uses{}}, {c(api.Stmt{Op: api.Make, Name: "x", What: api.Facet, A: en("y"), Able: 63}), api.Uses{Makes: true}}} {
		if u, e := Uses(p.code); e != api.OK || u != p.want {
			t.Error(i, u, e)
		}
	}
	y := c(api.Stmt{Op: api.Make, Name: "x", Second: "y", What: api.Gate, A: en("z")}, api.Stmt{Op: api.Can, A: en("x"), Able: 1, Then: c(api.Stmt{Op: api.Part, Name: "q", A: el(en("x"), en("w")), B: enum(0)})})
	if l, e := Sets(y); e != api.OK || !slices.Equal(l, []string{"q", "x", "y"}) {
		t.Error(l, e)
	}
	if l, e := Reads(y); e != api.OK || !slices.Equal(l, []string{"w", "x", "z"}) {
		t.Error(l, e)
	}
	z := c(clerk("k", c(act("inner", api.Put, en("hid"), en("hid2"))), "m", "b"), same(en("s"), en("t"), nil, c(clerk("j", c(let("deep", en("hid3"))), "n"))))
	if l, e := Sets(z); e != api.OK || !slices.Equal(l, []string{"j", "k"}) {
		t.Error(l, e)
	}
	if l, e := Reads(z); e != api.OK || !slices.Equal(l, []string{"b", "m", "n", "s", "t"}) {
		t.Error(l, e)
	}
}

func TestP16_5Names(t *testing.T) {
	names := []api.Name{{Name: "x", Value: num(1)}, {Name: "y", Value: list(num(2))}}
	if v, ok := Get(names, "y"); !ok || !value.Same(v, list(num(2))) {
		t.Error(v, ok)
	} else if v.L[0] = num(9); names[1].Value.L[0].N != 2 {
		t.Error("shared")
	}
	for _, s := range []string{"z", "", "X"} {
		if v, ok := Get(names, s); ok || v.Kind != api.Nothing {
			t.Error(s, v, ok)
		}
	}
	if v, ok := Get([]api.Name{{Name: "a", Value: num(1)}, {Name: "a", Value: num(2)}}, "a"); !ok || v.N != 1 {
		t.Error(v, ok)
	}
	l, e := Set(names, "x", num(5))
	if e != api.OK || !reflect.DeepEqual(l, []api.Name{{Name: "x", Value: num(5)}, {Name: "y", Value: list(num(2))}}) || names[0].Value.N != 1 {
		t.Error(l, e)
	}
	l, e = Set(names, "z", num(5))
	if e != api.OK || len(l) != 3 || l[2].Name != "z" || l[2].Value.N != 5 {
		t.Error(l, e)
	}
	for i, p := range []struct {
		name string
		v    api.Value
	}{{"", num(1)}, {"Z", num(1)}, {"z", ref(0)}} {
		if l, e := Set(names, p.name, p.v); l != nil || e != api.ErrArg {
			t.Error(i, l, e)
		}
	}
	var full []api.Name
	for i := range 64 {
		full = append(full, api.Name{Name: "a" + strings.Repeat("b", i%30) + string(rune('a'+i/30))})
	}
	if l, e := Set(full, "z", num(1)); l != nil || e != api.ErrLimit {
		t.Error(l, e)
	}
	if l, e := Set(full, full[63].Name, num(1)); len(l) != 64 || l[63].Value.N != 1 || e != api.OK {
		t.Error(e)
	}
	if _, e := Set(full, "z", ref(0)); e != api.ErrArg {
		t.Error(e)
	}
	l, e = Only(names, []string{"y", "q"})
	if e != api.OK || !reflect.DeepEqual(l, []api.Name{{Name: "y", Value: list(num(2))}, {Name: "q"}}) {
		t.Error(l, e)
	}
	for _, with := range [][]string{{"y", "y"}, {""}, {"y", "A"}} {
		if l, e := Only(names, with); l != nil || e != api.ErrArg {
			t.Error(with, l, e)
		}
	}
	if l, e := Only(names, nil); len(l) != 0 || e != api.OK {
		t.Error(l, e)
	}
}

// random makes code by chance.
func random(r *rand.Rand, deep int) []api.Stmt {
	var l []api.Stmt
	g := good()
	for range r.Intn(4) {
		s := g[r.Intn(len(g))]
		if deep > 0 && (s.Op == api.Same || s.Op == api.Can) {
			s.Then, s.Else = random(r, deep-1), random(r, deep-1)
		}
		if deep > 0 && s.What == api.Clerk && s.Op == api.Make {
			s.Code = random(r, deep-1)
		}
		l = append(l, s)
	}
	return l
}

func TestP16_6Uses(t *testing.T) {
	r := rand.New(rand.NewSource(1))
	for range 300 {
		a, b := random(r, 3), random(r, 3)
		u, _ := Uses(a)
		v, _ := Uses(b)
		both, e := Uses(append(slices.Clone(a), b...))
		if e != api.OK || both != (api.Uses{Able: u.Able | v.Able, Makes: u.Makes || v.Makes, Replies: u.Replies || v.Replies}) {
			t.Error(u, v, both, e)
		}
		for _, s := range Each(a) {
			p, _ := Uses(c(s))
			if p.Able&^u.Able != 0 || p.Makes && !u.Makes || p.Replies && !u.Replies {
				t.Error(p, u)
			}
		}
	}
}

func TestP16_7Work(t *testing.T) {
	r := rand.New(rand.NewSource(2))
	names := []api.Name{{Name: "x", Value: num(1)}, {Name: "y", Value: ref(2)}}
	for _, e := range []api.Expr{enum(1), etext("a"), el(enum(1), el())} {
		a, _ := Work(names, e)
		b, _ := Work(nil, e)
		if !value.Same(a, b) {
			t.Error(e)
		}
	}
	for range 200 {
		name, v := []string{"x", "y", "z"}[r.Intn(3)], num(int64(r.Intn(9)))
		set, e := Set(names, name, v)
		if got, ok := Get(set, name); e != api.OK || !ok || !value.Same(got, v) {
			t.Error(name, got, ok, e)
		}
		for _, o := range []string{"x", "y", "z"} {
			a, had := Get(names, o)
			b, has := Get(set, o)
			if o != name && (had != has || !value.Same(a, b)) {
				t.Error(o)
			}
		}
		a, _ := Work(names, el(en("x"), en("x")))
		b, _ := Work(set, el(en("x"), en("x")))
		if name != "x" && !value.Same(a, b) {
			t.Error(a, b)
		}
		names = set
	}
}

func TestP16_8Each(t *testing.T) {
	r := rand.New(rand.NewSource(3))
	for range 300 {
		x := random(r, 4)
		n, last := 0, -1
		for d, s := range Each(x) {
			if n == 0 && d != 0 || d > last+1 || !May(c(s)) {
				t.Error(n, d, last)
			}
			n++
			last = d
		}
		if n != Size(x) {
			t.Error(n, Size(x))
		}
	}
}
