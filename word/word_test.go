package word

import (
	"math"
	"math/rand"
	"reflect"
	"strings"
	"testing"

	"postern/api"
	"postern/value"
)

func num(n int64) api.Value         { return api.Value{Kind: api.Number, N: n} }
func text(s string) api.Value       { return api.Value{Kind: api.Text, S: s} }
func ref(r api.Ref) api.Value       { return api.Value{Kind: api.Reference, R: r} }
func list(l ...api.Value) api.Value { return api.Value{Kind: api.List, L: l} }
func name(s string) api.Token       { return api.Token{Kind: api.TName, S: s} }
func sign(s string) api.Token       { return api.Token{Kind: api.TSign, S: s} }
func number(n int64) api.Token      { return api.Token{Kind: api.TNumber, N: n} }

// some makes a value by chance.
func some(r *rand.Rand, deep int) api.Value {
	switch k := r.Intn(6); {
	case k == 0:
		return api.Value{}
	case k == 1:
		return num([]int64{0, 1, -1, math.MaxInt64, math.MinInt64, r.Int63() - r.Int63()}[r.Intn(6)])
	case k == 2:
		b := make([]byte, r.Intn(4))
		r.Read(b)
		return text(string(b))
	case k == 3 || deep == 0:
		return ref(api.Ref(1 + r.Intn(500)))
	}
	v := list()
	for n := r.Intn(4); n > 0; n-- {
		v.L = append(v.L, some(r, deep-1))
	}
	return v
}

func wrong() []api.Value {
	endless := make([]api.Value, 1)
	endless[0] = list(endless...)
	endless[0].L = endless
	return []api.Value{{Kind: 9}, {N: 1}, ref(0), text(strings.Repeat("a", 257)), list(make([]api.Value, 512)...), list(endless...), list(num(1), ref(-1))}
}

func TestP3_1Text(t *testing.T) {
	for _, c := range []struct {
		v    api.Value
		want string
	}{{api.Value{}, "_"}, {num(-5), "-5"}, {num(0), "0"}, {num(math.MinInt64), "-9223372036854775808"}, {text(`a"b`), `"a\"b"`}, {ref(7), "#7"}, {list(num(1), list(), ref(2)), "[1 [] #2]"}, {list(), "[]"}} {
		if s, e := Text(c.v); s != c.want || e != api.OK {
			t.Error(s, e)
		}
	}
	if s, e := Row(num(1), list(num(2), num(3)), text("")); s != `1 [2 3] ""` || e != api.OK {
		t.Error(s, e)
	}
	if s, e := Row(); s != "" || e != api.OK {
		t.Error(s, e)
	}
	for i, v := range wrong() {
		if s, e := Text(v); s != "" || e != api.ErrArg {
			t.Error(i, s, e)
		}
		if s, e := Row(num(1), v); s != "" || e != api.ErrArg {
			t.Error(i, s, e)
		}
		if l, e := Tokens(v); l != nil || e != api.ErrArg {
			t.Error(i, l, e)
		}
	}
}

func TestP3_2Read(t *testing.T) {
	nums := func(n int) string { return strings.TrimSpace(strings.Repeat("1 ", n)) }
	for s, at := range map[string]int{
		"[1 2": 4, "[1  2]": 3, "05": 1, "#0": 1, "-": 1, `"\x0A"`: 4, "1 ": 1, "": 0, "9223372036854775808": 18, "-9223372036854775809": 19, "#9223372036854775808": 19,
		strings.Repeat("[", 17): 16, "-0": 1, "00": 1, "-05": 1, "#": 1, "#01": 1, "#-1": 1, "[1 ]": 3, "[ 1]": 1, "[": 1, "[]]": 2, "[1]x": 3, "x": 0, " 1": 0, "__": 1, "[1,2]": 2,
		"[" + nums(512) + "]": 1022, "[" + nums(511): 1022, "[" + nums(511) + " ": 1022, "[" + nums(510) + " []": 1023, "[" + nums(510) + " [1": 1022,
		`"` + strings.Repeat("a", 257): 257, `"` + strings.Repeat("a", 256) + `\n`: 257, `"` + strings.Repeat(`\x00`, 257): 1025,
		`"\x0a"`: 4, `"\x2`: 3, `"\x22"`: 3, `"\x7e"`: 4, `"\x7`: 4, `"\x8`: 4, `"\xg`: 3, `"\t`: 2, `"é"`: 1, "\"\n\"": 1, "\"\x00\"": 1, `"a"b`: 3, `"a"1`: 3, "1a": 1, "\x00": 0,
	} {
		if v, n, e := Read(s); n != at || e != api.ErrForm || !reflect.DeepEqual(v, api.Value{}) {
			t.Error(s, v, n, e, "wanted", at)
		}
	}
	for s, want := range map[string]api.Value{
		"-9223372036854775808": num(math.MinInt64), "9223372036854775807": num(math.MaxInt64), "#9223372036854775807": ref(math.MaxInt64), "0": num(0), "_": {}, `"\x7f\x80\x0b"`: text("\x7f\x80\x0b"),
		strings.Repeat("[", 16) + strings.Repeat("]", 16): func() api.Value {
			v := list()
			for range 15 {
				v = list(v)
			}
			return v
		}(), `[_ "" [#1]]`: list(api.Value{}, text(""), list(ref(1))),
	} {
		if v, n, e := Read(s); n != 0 || e != api.OK || !value.Same(v, want) {
			t.Error(s, v, n, e)
		}
	}
	if v, n, e := Read("[" + nums(511) + "]"); len(v.L) != 511 || n != 0 || e != api.OK {
		t.Error(n, e)
	}
	if v, n, e := Read(`"` + strings.Repeat(`\xff`, 256) + `"`); v.S != strings.Repeat("\xff", 256) || n != 0 || e != api.OK {
		t.Error(n, e)
	}
}

func TestP3_3Quote(t *testing.T) {
	if s := Quote("\n\x00\xe9\\"); s != `"\n\x00\xe9\\"` {
		t.Error(s)
	}
	for c := range 256 {
		s := Quote(string([]byte{byte(c)}))
		want := len(s) == 3
		if want != (c >= 32 && c <= 126 && c != '"' && c != '\\') {
			t.Error(c, s)
		}
		if x, at, e := Unquote(s); x != string([]byte{byte(c)}) || at != 0 || e != api.OK {
			t.Error(c, s, x, at, e)
		}
	}
	for s, at := range map[string]int{`"a`: 2, `"a"b`: 3, "a": 0, "": 0, `"\`: 2, `"\x`: 3, `"\x0`: 4, `"\x1g`: 4, `"\n" `: 4, `"\N"`: 2} {
		if x, n, e := Unquote(s); x != "" || n != at || e != api.ErrForm {
			t.Error(s, x, n, e)
		}
	}
	long := strings.Repeat("a", 5000)
	if x, at, e := Unquote(Quote(long)); x != long || at != 0 || e != api.OK {
		t.Error(at, e)
	}
	if x, at, e := Unquote(`""`); x != "" || at != 0 || e != api.OK {
		t.Error(x, at, e)
	}
}

func TestP3_4Cut(t *testing.T) {
	l, at, e := Cut(`x = get #3 [-1 "a b"]`)
	want := []api.Token{{Kind: api.TName, S: "x"}, {Kind: api.TSign, At: 2, S: "="}, {Kind: api.TName, At: 4, S: "get"}, {Kind: api.TRef, At: 8, R: 3},
		{Kind: api.TSign, At: 11, S: "["}, {Kind: api.TNumber, At: 12, N: -1}, {Kind: api.TText, At: 15, S: "a b"}, {Kind: api.TSign, At: 20, S: "]"}}
	if at != 0 || e != api.OK || !reflect.DeepEqual(l, want) {
		t.Error(l, at, e)
	}
	for s, at := range map[string]int{
		"a-1": 1, "12a": 2, "007": 0, "#x": 0, "A": 0, `"a" "\q"`: 6, `a"b"`: 1, "aB": 1, "-": 0, "--1": 0, "-0": 0, "1-1": 1, "#1#2": 2, "#1-2": 2, "#1a": 2, "5\"x\"": 1, `"a""b"`: 3, `"a"b`: 3,
		`"a"1`: 3, "#0": 0, "#01": 0, "x #00": 2, "9223372036854775808": 0, "x -9223372036854775809": 2, "#9223372036854775808": 0, strings.Repeat("a", 33): 0, "x " + strings.Repeat("a", 33) + "-": 2,
		"x\ty": 1, "a!": 1, `"abc`: 4, ` "\x2`: 4, "a#1": 1, "]]x!": 3, "\x00": 0, "é": 0, "12 A": 3, "1A": 1, "007a": 0,
	} {
		if l, n, e := Cut(s); l != nil || n != at || e != api.ErrForm {
			t.Error(s, l, n, e, "wanted", at)
		}
	}
	for s, kinds := range map[string]string{"[]{": "sss", "": "", "   ": "", "a_b": "nsn", "_1": "s1", "1_": "1s", "x=-1": "ns1", "a1b2 z": "nn", "#1]#2": "rsr", "=\"a\"": "st", "()}:;,.+<>?": "sssssssssss", strings.Repeat("a", 32): "n"} {
		l, at, e := Cut(s)
		got := ""
		for _, x := range l {
			got += " n1trs"[x.Kind : x.Kind+1]
		}
		if got != kinds || at != 0 || e != api.OK {
			t.Error(s, got, at, e)
		}
	}
	if _, at, e := Cut(strings.Repeat(" ", api.MaxLine)); at != 0 || e != api.OK {
		t.Error(at, e)
	}
	if l, at, e := Cut("!" + strings.Repeat(" ", api.MaxLine)); l != nil || at != 0 || e != api.ErrLong {
		t.Error(l, at, e)
	}
}

func TestP3_5Join(t *testing.T) {
	if s, e := Join(name("a"), sign("["), number(1), sign("]")); s != "a [ 1 ]" || e != api.OK {
		t.Error(s, e)
	}
	if s, e := Join(); s != "" || e != api.OK {
		t.Error(s, e)
	}
	if s, e := Join(api.Token{Kind: api.TText, S: "a\n"}, api.Token{Kind: api.TRef, R: 7, At: -3}, number(-2)); s != `"a\n" #7 -2` || e != api.OK {
		t.Error(s, e)
	}
	for i, x := range []api.Token{{}, {Kind: 6}, name(""), name("A"), name("1a"), name("a b"), name(strings.Repeat("a", 33)), {Kind: api.TName, S: "a", N: 1}, {Kind: api.TName, S: "a", R: 1},
		{Kind: api.TNumber, S: "1"}, {Kind: api.TNumber, R: 1}, {Kind: api.TText, N: 1}, {Kind: api.TText, R: 1}, {Kind: api.TRef}, {Kind: api.TRef, R: -1}, {Kind: api.TRef, R: 1, N: 1}, {Kind: api.TRef, R: 1, S: "a"},
		sign(""), sign("[["), sign("a"), sign("-"), sign("#"), {Kind: api.TSign, S: "[", N: 1}, {Kind: api.TSign, S: "[", R: 1}} {
		if s, e := Join(name("a"), x); s != "" || e != api.ErrArg {
			t.Error(i, s, e)
		}
	}
	half := api.Token{Kind: api.TText, S: strings.Repeat("a", api.MaxLine-4)}
	if s, e := Join(half, name("a")); len(s) != api.MaxLine || e != api.OK {
		t.Error(len(s), e)
	}
	if s, e := Join(half, name("ab")); s != "" || e != api.ErrLong {
		t.Error(len(s), e)
	}
	if s, e := Join(half, half, name("A")); s != "" || e != api.ErrArg {
		t.Error(len(s), e)
	}
}

func TestP3_6Front(t *testing.T) {
	open := func(n int) []api.Token {
		var l []api.Token
		for range n {
			l = append(l, sign("["))
		}
		return l
	}
	ones := func(n int) []api.Token {
		l := open(1)
		for range n {
			l = append(l, number(1))
		}
		return l
	}
	for i, c := range []struct {
		l    []api.Token
		want api.Value
		n    int
		e    api.Errno
	}{
		{[]api.Token{sign("["), number(1), sign("]"), number(2)}, list(num(1)), 3, 0}, {[]api.Token{sign("["), number(1)}, api.Value{}, 2, api.ErrForm}, {[]api.Token{name("a")}, api.Value{}, 0, api.ErrForm},
		{[]api.Token{sign("]")}, api.Value{}, 0, api.ErrForm}, {nil, api.Value{}, 0, api.ErrForm}, {[]api.Token{sign("_"), {Kind: 77}}, api.Value{}, 1, 0},
		{[]api.Token{{Kind: api.TNumber, N: 1, S: "a"}}, api.Value{}, 0, api.ErrForm}, {[]api.Token{sign("["), name("a")}, api.Value{}, 1, api.ErrForm}, {[]api.Token{sign("["), sign("_"), {}}, api.Value{}, 2, api.ErrForm},
		{[]api.Token{{Kind: api.TText, S: strings.Repeat("a", 257)}}, api.Value{}, 0, api.ErrForm}, {[]api.Token{{Kind: api.TText, S: "x", At: 9}}, text("x"), 1, 0}, {[]api.Token{{Kind: api.TRef, R: 5}}, ref(5), 1, 0},
		{open(17), api.Value{}, 16, api.ErrForm}, {open(16), api.Value{}, 16, api.ErrForm}, {ones(512), api.Value{}, 512, api.ErrForm}, {ones(511), api.Value{}, 512, api.ErrForm}, {append(ones(510), sign("["), number(1)), api.Value{}, 512, api.ErrForm},
	} {
		if v, n, e := Front(c.l...); n != c.n || e != c.e || !value.Same(v, c.want) {
			t.Error(i, v, n, e)
		}
	}
	if v, n, e := Front(append(ones(511), sign("]"))...); len(v.L) != 511 || n != 513 || e != api.OK {
		t.Error(n, e)
	}
	got, e := Tokens(list(num(1), text("a"), list()))
	want, _, _ := Cut(`[1 "a" []]`)
	if e != api.OK || !reflect.DeepEqual(got, want) {
		t.Error(got, e)
	}
}

func TestP3_7OneForm(t *testing.T) {
	r := rand.New(rand.NewSource(1))
	texts := map[string]api.Value{}
	for range 500 {
		v := some(r, 4)
		s, e := Text(v)
		if x, at, f := Read(s); e != api.OK || f != api.OK || at != 0 || !value.Same(x, v) {
			t.Error(s, x, at, f)
		}
		if old, met := texts[s]; met && !value.Same(old, v) {
			t.Error("one text of two values", s)
		}
		texts[s] = v
		b := []byte(s)
		b[r.Intn(len(b))] = " \"\\#[]-_019axn"[r.Intn(14)]
		if x, _, e := Read(string(b)); e == api.OK {
			if back, _ := Text(x); back != string(b) {
				t.Error(string(b), back)
			}
		}
		if x, _, e := Unquote(string(b)); e == api.OK && Quote(x) != string(b) {
			t.Error(string(b), x)
		}
	}
}

// canEnd says whether something is found that makes s a value's text.
func canEnd(s string) bool {
	for _, more := range []string{"", `"`, "1", "0", `0"`, `00"`, `f"`, `x00"`, "_", `x7f"`} {
		for n := range 18 {
			if _, _, e := Read(s + more + strings.Repeat("]", n)); e == api.OK {
				return true
			}
		}
	}
	return false
}

func TestP3_8GoesWell(t *testing.T) {
	r := rand.New(rand.NewSource(2))
	for range 1500 {
		v := some(r, 3)
		s, _ := Text(v)
		b := []byte(s)
		b = b[:r.Intn(len(b)+1)]
		for range r.Intn(3) {
			b = append(b, " \"\\#[]-_019axn\x00"[r.Intn(15)])
		}
		s = string(b)
		_, at, e := Read(s)
		if e == api.OK {
			continue
		}
		if !canEnd(s[:at]) || at < len(s) && canEnd(s[:at+1]) {
			t.Error(s, at)
		}
	}
}

func noPlaces(l []api.Token) []api.Token {
	out := append([]api.Token{}, l...)
	for i := range out {
		out[i].At = 0
	}
	return out
}

func TestP3_9Tokens(t *testing.T) {
	r := rand.New(rand.NewSource(3))
	for range 300 {
		var l []api.Token
		for range r.Intn(8) {
			l = append(l, []api.Token{name("a1"), name("x"), sign("["), sign("_"), sign(";"), number(r.Int63()), number(-3), {Kind: api.TText, S: "a\"\n"}, {Kind: api.TRef, R: 12}}[r.Intn(9)])
		}
		s, e := Join(l...)
		back, at, f := Cut(s)
		if e != api.OK || f != api.OK || at != 0 || !reflect.DeepEqual(noPlaces(back), noPlaces(l)) {
			t.Error(s, back, at, f)
		}
		tight := strings.ReplaceAll(s, " ;", ";")
		cut, _, _ := Cut(tight)
		joined, _ := Join(cut...)
		if again, _, _ := Cut(joined); !reflect.DeepEqual(noPlaces(again), noPlaces(cut)) || len(joined) > len(tight)+len(cut) {
			t.Error(tight, joined)
		}
		v := some(r, 3)
		of, _ := Tokens(v)
		if x, n, e := Front(append(of, l...)...); e != api.OK || n != len(of) || !value.Same(x, v) {
			t.Error(v, x, n, e)
		}
	}
}
