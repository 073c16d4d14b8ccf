package lang

import (
	"math/rand"
	"reflect"
	"slices"
	"strings"
	"testing"

	"postern/api"
	"postern/code"
	"postern/word"
)

func en(s string) api.Expr              { return api.Expr{Kind: api.EName, S: s} }
func enum(n int64) api.Expr             { return api.Expr{Kind: api.ENumber, N: n} }
func etext(s string) api.Expr           { return api.Expr{Kind: api.EText, S: s} }
func el(l ...api.Expr) api.Expr         { return api.Expr{Kind: api.EList, L: l} }
func let(n string, a api.Expr) api.Stmt { return api.Stmt{Op: api.Let, Name: n, A: a} }
func c(l ...api.Stmt) []api.Stmt        { return l }
func mk(k api.Kind, n, m string, a api.Expr) api.Stmt {
	return api.Stmt{Op: api.Make, What: k, Name: n, Second: m, A: a}
}

var none = api.Expr{}

// forms are texts with the code that they are.
func forms() map[string][]api.Stmt {
	return map[string][]api.Stmt{
		"":                                nil,
		"x = get c ; reply [ x 1 ]":       c(api.Stmt{Op: api.Act, Name: "x", Able: api.Get, A: en("c")}, api.Stmt{Op: api.Reply, A: el(en("x"), enum(1))}),
		"x = get ; get = x":               c(let("x", en("get")), let("get", en("x"))),
		`s o = make seal ; b = ask s "t"`: c(mk(api.Sealer, "s", "o", none), api.Stmt{Op: api.Act, Name: "b", Able: api.Ask, A: en("s"), B: etext("t")}),
		"if same x _ { fail } else { }":   c(api.Stmt{Op: api.Same, A: en("x"), Then: c(api.Stmt{Op: api.Fail})}),
		"k = make clerk [ c ] { v = get c ; reply v }":    c(api.Stmt{Op: api.Make, What: api.Clerk, Name: "k", With: []string{"c"}, Code: c(api.Stmt{Op: api.Act, Name: "v", Able: api.Get, A: en("c")}, api.Stmt{Op: api.Reply, A: en("v")})}),
		"f = make facet c get + put ; g = make facet c _": c(api.Stmt{Op: api.Make, What: api.Facet, Name: "f", A: en("c"), Able: api.Get | api.Put}, api.Stmt{Op: api.Make, What: api.Facet, Name: "g", A: en("c")}),
		"x = _ ; y = [ ] ; z = -5 ; t = \"a b\"":          c(let("x", none), let("y", el()), let("z", enum(-5)), let("t", etext("a b"))),
		"x = cut s ; x = put c _ ; x = take q 1 ; x = give l [ x [ 1 ] ]": c(api.Stmt{Op: api.Act, Name: "x", Able: api.Cut, A: en("s")}, api.Stmt{Op: api.Act, Name: "x", Able: api.Put, A: en("c")},
			api.Stmt{Op: api.Act, Name: "x", Able: api.Take, A: en("q"), B: enum(1)}, api.Stmt{Op: api.Act, Name: "x", Able: api.Give, A: en("l"), B: el(en("x"), el(enum(1)))}),
		"c = make cell _ ; c = make cell [ c ] ; l = make log ; t = make tally ; q = make queue ; m = make mint":              c(mk(api.Cell, "c", "", none), mk(api.Cell, "c", "", el(en("c"))), mk(api.Log, "l", "", none), mk(api.Tally, "t", "", none), mk(api.Queue, "q", "", none), mk(api.Mint, "m", "", none)),
		"g h = make gate c ; t n = make tap g ; p k = make promise":                                                           c(mk(api.Gate, "g", "h", en("c")), mk(api.Tap, "t", "n", en("g")), mk(api.Promise, "p", "k", none)),
		"x = part [ 1 2 ] 0 ; y = await p ; reply _ ; reply reply":                                                            c(api.Stmt{Op: api.Part, Name: "x", A: el(enum(1), enum(2)), B: enum(0)}, api.Stmt{Op: api.Await, Name: "y", A: en("p")}, api.Stmt{Op: api.Reply}, api.Stmt{Op: api.Reply, A: en("reply")}),
		"if can x get + take + cut { } else { if can y _ { } else { fail } }":                                                 c(api.Stmt{Op: api.Can, A: en("x"), Able: api.Get | api.Take | api.Cut, Else: c(api.Stmt{Op: api.Can, A: en("y"), Else: c(api.Stmt{Op: api.Fail})})}),
		"reply x = make seal ; if same = make promise ; if can = make gate x ; fail x = make seal":                            c(mk(api.Sealer, "reply", "x", none), mk(api.Promise, "if", "same", none), mk(api.Gate, "if", "can", en("x")), mk(api.Sealer, "fail", "x", none)),
		"fail = 1 ; reply = 1 ; if = 1 ; make = make ; part = part ; await = await ; put = put ; x = fail ; x = if ; x = log": c(let("fail", enum(1)), let("reply", enum(1)), let("if", enum(1)), let("make", en("make")), let("part", en("part")), let("await", en("await")), let("put", en("put")), let("x", en("fail")), let("x", en("if")), let("x", en("log"))),
		"get = get get ; make = make cell make ; x = part part part":                                                          c(api.Stmt{Op: api.Act, Name: "get", Able: api.Get, A: en("get")}, mk(api.Cell, "make", "", en("make")), api.Stmt{Op: api.Part, Name: "x", A: en("part"), B: en("part")}),
		"k = make clerk [ ] { }": c(mk(api.Clerk, "k", "", none)),
	}
}

func TestP17_1Texts(t *testing.T) {
	for s, want := range forms() {
		got, e := Text(want)
		if got != s || e != api.OK {
			t.Errorf("%q %q %v", s, got, e)
		}
		l, e := Tokens(want)
		cut, _, _ := word.Cut(s)
		for i := range cut {
			cut[i].At = 0
		}
		if e != api.OK || !slices.Equal(l, cut) {
			t.Error(s, l, e)
		}
	}
	for i, bad := range [][]api.Stmt{c(let("", none)), slices.Repeat(c(let("x", none)), 513)} {
		_, want := code.Check(bad)
		s, e1 := Text(bad)
		l, e2 := Tokens(bad)
		n, e3 := Lines(bad)
		if s != "" || l != nil || n != nil || e1 != want || e2 != want || e3 != want {
			t.Error(i, e1, e2, e3)
		}
	}
	big := el()
	for range 511 {
		big.L = append(big.L, etext(strings.Repeat("\x00", 256)))
	}
	long := c(api.Stmt{Op: api.Part, Name: "x", A: big, B: big})
	if s, e := Text(long); s != "" || e != api.ErrLong {
		t.Error(len(s), e)
	}
	if l, e := Tokens(long); len(l) < 1000 || e != api.OK {
		t.Error(e)
	}
	if l, e := Lines(long); e != api.OK || len(l) != 1 || len(l[0]) <= api.MaxLine {
		t.Error(e)
	}
}

func TestP17_1Lines(t *testing.T) {
	for s, want := range map[string][]string{
		"if can c get { x = get c } else { } ; reply x": {"if can c get {", "  x = get c", "} else {", "}", "reply x"},
		"": nil,
		"k = make clerk [ a b ] { if same a b { fail ; x = 1 } else { reply it } } ; y = [ 1 ]": {"k = make clerk [ a b ] {", "  if same a b {", "    fail", "    x = 1", "  } else {", "    reply it", "  }", "}", "y = [ 1 ]"},
		"if same _ _ { } else { if same _ _ { } else { } }":                                     {"if same _ _ {", "} else {", "  if same _ _ {", "  } else {", "  }", "}"},
	} {
		x, _, e := Read(s)
		l, f := Lines(x)
		if e != api.OK || f != api.OK || !slices.Equal(l, want) {
			t.Errorf("%q %q %v %v", s, l, e, f)
		}
	}
}

func TestP17_2Read(t *testing.T) {
	for s, want := range forms() {
		got, at, e := Read(s)
		if e != api.OK || at != 0 || !code.Same(got, want) {
			t.Error(s, got, at, e)
		}
	}
	for _, p := range []struct {
		s  string
		at int
		e  api.Errno
	}{
		{"x =", 3, api.ErrSyntax}, {"x = ", 4, api.ErrSyntax}, {"x = put y ;", 10, api.ErrSyntax}, {"x = put y", 9, api.ErrSyntax}, {"x = make box", 9, api.ErrSyntax}, {"x y = get z", 6, api.ErrSyntax}, {"x = #3", 4, api.ErrSyntax}, {"x = 1 ;; y = 2", 7, api.ErrSyntax},
		{"x x = make seal", 0, api.ErrCode}, {"if can x get { }", 16, api.ErrSyntax}, {"x", 1, api.ErrSyntax}, {"x y", 3, api.ErrSyntax}, {"x y z", 4, api.ErrSyntax}, {"x 1", 2, api.ErrSyntax}, {"1", 0, api.ErrSyntax}, {"}", 0, api.ErrSyntax}, {"x = 1 }", 6, api.ErrSyntax}, {"x = 1 y", 6, api.ErrSyntax},
		{"x = 1 ;", 7, api.ErrSyntax}, {"fail x", 6, api.ErrSyntax}, {"fail 1", 5, api.ErrSyntax}, {"fail x ;", 7, api.ErrSyntax}, {"reply", 5, api.ErrSyntax}, {"reply ;", 6, api.ErrSyntax}, {"reply x y", 8, api.ErrSyntax}, {"reply x = 1", 10, api.ErrSyntax}, {"if", 2, api.ErrSyntax}, {"if x", 4, api.ErrSyntax},
		{"if same x { }", 10, api.ErrSyntax}, {"if same x y z", 12, api.ErrSyntax}, {"if can _ get", 7, api.ErrSyntax}, {"if can x y", 9, api.ErrSyntax}, {"if can x put + get", 15, api.ErrSyntax}, {"if can x get + get", 15, api.ErrSyntax}, {"if can x cut +", 13, api.ErrSyntax}, {"if can x get +", 14, api.ErrSyntax}, {"if can x _ + get", 11, api.ErrSyntax},
		{"if same x y { } { }", 16, api.ErrSyntax}, {"if same x y { x }", 16, api.ErrSyntax}, {"if same x y { ; }", 14, api.ErrSyntax}, {"if same x y { x = 1 ; }", 22, api.ErrSyntax}, {"x = get _", 8, api.ErrSyntax}, {"x = get y z", 10, api.ErrSyntax}, {"x = put _ 1", 8, api.ErrSyntax}, {"x = put y 1 2", 12, api.ErrSyntax}, {"x = make 1", 9, api.ErrSyntax},
		{"x = make seal", 9, api.ErrSyntax}, {"x = make gate y", 9, api.ErrSyntax}, {"x y = make log", 11, api.ErrSyntax}, {"x y = make seal z", 16, api.ErrSyntax}, {"x = make log y", 13, api.ErrSyntax}, {"x = make cell", 13, api.ErrSyntax}, {"x = make facet y", 16, api.ErrSyntax}, {"x = make facet _ get", 15, api.ErrSyntax},
		{"x = make clerk y", 15, api.ErrSyntax}, {"x = make clerk [ 1", 17, api.ErrSyntax}, {"x = make clerk [ ] { x = ( }", 25, api.ErrSyntax}, {"x = part y", 10, api.ErrSyntax}, {"x = part y _", 11, api.ErrSyntax}, {"x = await _", 10, api.ErrSyntax}, {"x = [ 1", 7, api.ErrSyntax}, {"x = [ _ ]", 6, api.ErrSyntax}, {"x = [ 1 ] ]", 10, api.ErrSyntax},
		{"x = 01", 4, api.ErrForm}, {"x = A", 4, api.ErrForm}, {"x = (  A", 7, api.ErrForm}, {strings.Repeat(" ", api.MaxLine+1), 0, api.ErrLong},
		{"a = 1 ; if same a a { b = 1 ; x x = make seal } else { }", 30, api.ErrCode}, {"k = make clerk [ a a ] { }", 0, api.ErrCode}, {"x = " + strings.Repeat("[", 17) + strings.Repeat("]", 17), 0, api.ErrCode}, {"y = 1; x = " + strings.Repeat("[", 9000) + strings.Repeat("]", 9000), 7, api.ErrCode},
		{"y = 1; x = " + strings.Repeat("[", 9000) + "=", 9011, api.ErrSyntax}, {"y = 1; x = " + strings.Repeat("[", 9000), 9011, api.ErrSyntax}, {`y = 1; x = "` + strings.Repeat("a", 257) + `"`, 7, api.ErrCode}, {"x = [" + strings.Repeat("1 ", 512) + "]", 0, api.ErrCode},
		{"x x = make seal 5", 16, api.ErrSyntax}, {"x x = make seal } ", 16, api.ErrSyntax}, {"y = 1 ; x x = make seal ; z = get _", 34, api.ErrSyntax}, {strings.Repeat("x=1;", 512) + "y=1 2", 2052, api.ErrSyntax},
		{strings.Repeat("x=1;", 512) + "y=1", 2048, api.ErrLong}, {strings.Repeat("x=1;", 512) + "y=(", 2050, api.ErrSyntax}, {strings.Repeat("if same x x{", 600) + strings.Repeat("}else{}", 600), 512 * 12, api.ErrLong}, {"q q=make seal;" + strings.Repeat("if same x x{", 600) + strings.Repeat("}else{}", 600), 0, api.ErrCode},
	} {
		if got, at, e := Read(p.s); got != nil || at != p.at || e != p.e {
			t.Errorf("%.60q: got %v %v, wanted %v %v", p.s, at, e, p.at, p.e)
		}
	}
	if x, _, e := Read(strings.Repeat("x=1;", 511) + "y=1"); len(x) != 512 || e != api.OK {
		t.Error(e)
	}
}

func TestP17_3Front(t *testing.T) {
	cut := func(s string) []api.Token { l, _, _ := word.Cut(s); return l }
	for _, p := range []struct {
		s    string
		n    int
		e    api.Errno
		want string
	}{{"x = 1 ; y = 2 } z", 7, 0, "x = 1 ; y = 2"}, {"", 0, 0, ""}, {"}", 0, 0, ""}, {"1", 0, 0, ""}, {"x = get _", 3, 0, "x = get"}, {"x = 1 ; }", 4, api.ErrSyntax, ""}, {"fail 1", 1, 0, "fail"}, {"fail x ;", 2, api.ErrSyntax, ""}, {"reply x = 1", 3, api.ErrSyntax, ""},
		{"reply x }", 2, 0, "reply x"}, {"x = put y }", 4, api.ErrSyntax, ""}, {"x = 1 ; y y = make seal ; z = 1", 4, api.ErrCode, ""}, {"x", 1, api.ErrSyntax, ""}} {
		want, _, _ := Read(p.want)
		if got, n, e := Front(cut(p.s)...); n != p.n || e != p.e || !code.Same(got, want) {
			t.Error(p.s, got, n, e)
		}
	}
	l := cut("x = 1 ; y = 2")
	for i := range l {
		l[i].At = -9
	}
	l = append(l, api.Token{Kind: api.TSign, S: ";", N: 1})
	if got, n, e := Front(l...); len(got) != 2 || n != 7 || e != api.OK {
		t.Error(got, n, e)
	}
	for i, x := range []api.Token{{}, {Kind: 9}, {Kind: api.TName, S: "A"}, {Kind: api.TName, S: "x", N: 1}, {Kind: api.TNumber, N: 1, S: "a"}, {Kind: api.TRef, R: 1}} {
		if got, n, e := Front(l[0], l[1], x); got != nil || n != 2 || e != api.ErrSyntax {
			t.Error(i, got, n, e)
		}
	}
}

func TestP17_4Exprs(t *testing.T) {
	for s, want := range map[string]api.Expr{"_": none, "1": enum(1), `"a"`: etext("a"), "x": en("x"), "[ ]": el(), "[ x [ 1 ] ]": el(en("x"), el(enum(1)))} {
		got, e := Expr(want)
		x, at, f := ReadExpr(s)
		if got != s || e != api.OK || f != api.OK || at != 0 || !reflect.DeepEqual(x, want) {
			t.Error(s, got, e, x, at, f)
		}
	}
	for i, x := range []api.Expr{{N: 1}, en(""), el(none), {Kind: 9}, etext(strings.Repeat("a", 257))} {
		if s, e := Expr(x); s != "" || e != api.ErrArg {
			t.Error(i, s, e)
		}
	}
	big := el()
	for range 511 {
		big.L = append(big.L, etext(strings.Repeat("\x00", 256)))
	}
	if s, e := Expr(big); e != api.OK || len(s) < 500000 {
		t.Error(e)
	}
	for _, p := range []struct {
		s  string
		at int
		e  api.Errno
	}{{"", 0, api.ErrSyntax}, {"1 2", 2, api.ErrSyntax}, {"[ 1", 3, api.ErrSyntax}, {"[ _ ]", 2, api.ErrSyntax}, {"#1", 0, api.ErrSyntax}, {"01", 0, api.ErrForm}, {"=", 0, api.ErrSyntax}, {"_ _", 2, api.ErrSyntax}, {strings.Repeat("[", 17) + strings.Repeat("]", 17), 0, api.ErrArg}, {`"` + strings.Repeat("a", 257) + `"`, 0, api.ErrArg}, {strings.Repeat("[", 17), 17, api.ErrSyntax}} {
		if x, at, e := ReadExpr(p.s); at != p.at || e != p.e || !reflect.DeepEqual(x, none) {
			t.Errorf("%.40q %v %v %v", p.s, x, at, e)
		}
	}
	for a, want := range map[api.Able]string{0: "_", 5: "get+take", 63: "get+put+take+give+ask+cut"} {
		if s, e := Set(a); s != want || e != api.OK {
			t.Error(a, s, e)
		}
	}
	if s, e := Set(64); s != "" || e != api.ErrArg {
		t.Error(s, e)
	}
}

// random makes code that may be.
func random(r *rand.Rand, deep, most int) []api.Stmt {
	name := func() string {
		return []string{"x", "y", "get", "make", "if", "reply", "fail", "same", "part"}[r.Intn(9)]
	}
	var expr func(d int) api.Expr
	expr = func(d int) api.Expr {
		switch k := r.Intn(4); {
		case k == 0:
			return enum(int64(r.Intn(5) - 2))
		case k == 1:
			return etext([]string{"", "a\"\n", "get"}[r.Intn(3)])
		case k == 2 && d > 0:
			e := el()
			for range r.Intn(3) {
				e.L = append(e.L, expr(d-1))
			}
			return e
		}
		return en(name())
	}
	maybe := func() api.Expr {
		if r.Intn(4) == 0 {
			return none
		}
		return expr(2)
	}
	var l []api.Stmt
	for range r.Intn(most) {
		s := api.Stmt{Op: api.Op(1 + r.Intn(9)), Name: name()}
		switch s.Op {
		case api.Let:
			s.A = maybe()
		case api.Act:
			s.Able, s.A = 1<<r.Intn(6), expr(2)
			if s.Able != api.Get && s.Able != api.Cut {
				s.B = maybe()
			}
		case api.Make:
			s.What = []api.Kind{api.Cell, api.Log, api.Tally, api.Queue, api.Mint, api.Facet, api.Gate, api.Tap, api.Sealer, api.Promise, api.Clerk}[r.Intn(11)]
			switch s.What {
			case api.Cell:
				s.A = maybe()
			case api.Facet:
				s.A, s.Able = expr(1), api.Able(r.Intn(64))
			case api.Gate, api.Tap:
				s.A, s.Second = expr(1), "z"
			case api.Sealer, api.Promise:
				s.Second = "z"
			case api.Clerk:
				if deep > 0 {
					s.Code = random(r, deep-1, 3)
				}
				s.With = [][]string{nil, {"x"}, {"get", "y"}}[r.Intn(3)]
			}
		case api.Part:
			s.A, s.B = expr(2), expr(2)
		case api.Await:
			s.A = expr(1)
		default:
			s.Name = ""
		}
		switch s.Op {
		case api.Same, api.Can:
			s.A = expr(1)
			if deep > 0 {
				s.Then, s.Else = random(r, deep-1, 3), random(r, deep-1, 3)
			}
			if s.Op == api.Same {
				s.B = maybe()
			} else {
				s.Able = api.Able(r.Intn(64))
			}
		case api.Reply:
			s.A = maybe()
		}
		l = append(l, s)
	}
	return l
}

func TestP17_5ThereAndBack(t *testing.T) {
	r := rand.New(rand.NewSource(1))
	for range 500 {
		x := random(r, 3, 5)
		s, e := Text(x)
		back, at, f := Read(s)
		if e != api.OK || f != api.OK || at != 0 || !code.Same(back, x) {
			t.Fatal(s, e, at, f)
		}
		if again, _ := Text(back); again != s {
			t.Error(s, again)
		}
		l, _ := Lines(x)
		joined := ""
		for i, line := range l {
			next := ""
			if i+1 < len(l) {
				next = strings.TrimSpace(l[i+1])
			}
			joined += line
			if next != "" && !strings.HasSuffix(line, "{") && !strings.HasPrefix(next, "}") {
				joined += " ;"
			}
			joined += " "
		}
		if y, at, e := Read(joined); e != api.OK || !code.Same(y, x) {
			t.Error(joined, at, e)
		}
	}
}

// The slow reader goes over all ways in which tokens may be code, and tells how far the best of them goes.
type slow struct {
	l   []api.Token
	far int
	all bool
}
type then func(i int)

func (s *slow) one(i int, may func(t api.Token) bool, k then) {
	s.far = max(s.far, i)
	if i < len(s.l) && may(s.l[i]) {
		k(i + 1)
	}
}
func (s *slow) sign(i int, x string, k then) {
	s.one(i, func(t api.Token) bool { return isSign(t, x) }, k)
}
func (s *slow) word(i int, x string, k then) {
	s.one(i, func(t api.Token) bool { return isWord(t, x) }, k)
}
func (s *slow) name(i int, k then) {
	s.one(i, func(t api.Token) bool { return t.Kind == api.TName }, k)
}
func (s *slow) expr(i int, k then) {
	s.one(i, func(t api.Token) bool { return t.Kind == api.TName || t.Kind == api.TNumber || t.Kind == api.TText }, k)
	var parts then
	parts = func(i int) { s.sign(i, "]", k); s.expr(i, parts) }
	if i < len(s.l) && isSign(s.l[i], "[") {
		parts(i + 1)
	}
}
func (s *slow) or(i int, k then) { s.sign(i, "_", k); s.expr(i, k) }
func (s *slow) set(i int, k then) {
	s.sign(i, "_", k)
	s.ables(i, 0, k)
}
func (s *slow) ables(i, from int, k then) {
	for n, a := range []string{"get", "put", "take", "give", "ask", "cut"} {
		if n < from {
			continue
		}
		s.word(i, a, func(i int) {
			k(i)
			if n < 5 {
				s.sign(i, "+", func(i int) { s.ables(i, n+1, k) })
			}
		})
	}
}
func (s *slow) code(i int, k then) { k(i); s.stmts(i, k) }
func (s *slow) stmts(i int, k then) {
	s.stmt(i, func(i int) { k(i); s.sign(i, ";", func(i int) { s.stmts(i, k) }) })
}
func (s *slow) block(i int, k then) {
	s.sign(i, "{", func(i int) { s.code(i, func(i int) { s.sign(i, "}", k) }) })
}
func (s *slow) blocks(i int, k then) {
	s.block(i, func(i int) { s.word(i, "else", func(i int) { s.block(i, k) }) })
}
func (s *slow) stmt(i int, k then) {
	s.word(i, "fail", k)
	s.word(i, "reply", func(i int) { s.or(i, k) })
	s.word(i, "if", func(i int) {
		s.word(i, "same", func(i int) { s.or(i, func(i int) { s.or(i, func(i int) { s.blocks(i, k) }) }) })
		s.word(i, "can", func(i int) { s.expr(i, func(i int) { s.set(i, func(i int) { s.blocks(i, k) }) }) })
	})
	s.name(i, func(i int) {
		s.sign(i, "=", func(i int) { s.single(i, k) })
		s.name(i, func(i int) {
			s.sign(i, "=", func(i int) {
				s.word(i, "make", func(i int) {
					s.word(i, "gate", func(i int) { s.expr(i, k) })
					s.word(i, "tap", func(i int) { s.expr(i, k) })
					s.word(i, "seal", k)
					s.word(i, "promise", k)
				})
			})
		})
	})
}
func (s *slow) single(i int, k then) {
	s.or(i, k)
	for _, a := range []string{"get", "cut", "await"} {
		s.word(i, a, func(i int) { s.expr(i, k) })
	}
	for _, a := range []string{"put", "take", "give", "ask"} {
		s.word(i, a, func(i int) { s.expr(i, func(i int) { s.or(i, k) }) })
	}
	s.word(i, "part", func(i int) { s.expr(i, func(i int) { s.expr(i, k) }) })
	s.word(i, "make", func(i int) {
		s.word(i, "cell", func(i int) { s.or(i, k) })
		for _, a := range []string{"log", "tally", "queue", "mint"} {
			s.word(i, a, k)
		}
		s.word(i, "facet", func(i int) { s.expr(i, func(i int) { s.set(i, k) }) })
		s.word(i, "clerk", func(i int) {
			var names then
			names = func(i int) { s.sign(i, "]", func(i int) { s.block(i, k) }); s.name(i, names) }
			s.sign(i, "[", names)
		})
	})
}

func TestP17_6GoesOn(t *testing.T) {
	r := rand.New(rand.NewSource(2))
	words := strings.Fields("x y get put make if same can reply fail part await cell log seal gate facet clerk else = ; { } [ ] _ + 1 #2 ( cut")
	for range 4000 {
		l, _ := Tokens(random(r, 2, 4))
		for range r.Intn(3) {
			x, _, _ := word.Cut(words[r.Intn(len(words))])
			i := r.Intn(len(l) + 1)
			switch r.Intn(3) {
			case 0:
				l = slices.Insert(l, i, x[0])
			case 1:
				l = l[:i]
			default:
				if i < len(l) {
					l[i] = x[0]
				}
			}
		}
		s, _ := word.Join(l...)
		cut, _, _ := word.Cut(s)
		slow := &slow{l: l}
		slow.code(0, func(i int) { slow.far = max(slow.far, i); slow.all = slow.all || i == len(l) })
		_, at, e := Read(s)
		if slow.all != (e != api.ErrSyntax) {
			t.Fatal(s, at, e, slow.all)
		}
		if e == api.ErrSyntax && at != place(s, cut, slow.far) {
			t.Fatal(s, at, place(s, cut, slow.far))
		}
		whole := false
		part := &slowAll{}
		part.run(l[:slow.far], &whole)
		x, n, f := Front(l...)
		if f == api.ErrSyntax && (whole || n != slow.far) || f == api.OK && (!whole || n != slow.far) {
			t.Fatal(s, x, n, f, slow.far, whole)
		}
		tight := strings.ReplaceAll(strings.ReplaceAll(s, " ;", ";"), "[ ", "[")
		wide := strings.ReplaceAll(s, " = ", "  =   ")
		a, _, e1 := Read(s)
		b, _, e2 := Read(tight)
		d, _, e3 := Read(wide)
		if !strings.Contains(s, `"`) && (e1 != e2 || e1 != e3 || e1 == api.OK && (!code.Same(a, b) || !code.Same(a, d))) {
			t.Error(s, e1, e2, e3)
		}
	}
}

type slowAll struct{}

func (slowAll) run(l []api.Token, whole *bool) {
	s := &slow{l: l}
	s.code(0, func(i int) { *whole = *whole || i == len(l) })
}

func TestP17_7Two(t *testing.T) {
	r := rand.New(rand.NewSource(3))
	texts := map[string][]api.Stmt{}
	for range 400 {
		a, b := random(r, 2, 4), random(r, 2, 4)
		s, _ := Text(a)
		z, _ := Text(b)
		if old, met := texts[s]; met && !code.Same(old, a) {
			t.Error("one text of two codes", s)
		}
		texts[s] = a
		if len(a) == 0 || len(b) == 0 {
			continue
		}
		if both, at, e := Read(s + ";" + z); e != api.OK || !code.Same(both, append(slices.Clone(a), b...)) {
			t.Error(s, z, at, e)
		}
	}
}
