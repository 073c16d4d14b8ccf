package fault

import (
	"errors"
	"math"
	"math/rand"
	"reflect"
	"runtime"
	"strings"
	"testing"

	"postern/api"
)

func tree(code api.Errno, under ...api.Tree) api.Tree { return api.Tree{Code: code, Under: under} }

func tower(n int) api.Tree {
	t := tree(1)
	for ; n > 1; n-- {
		t = tree(1, t)
	}
	return t
}

func wide(n int) api.Tree {
	t := tree(1)
	for ; n > 1; n-- {
		t.Under = append(t.Under, tree(2))
	}
	return t
}

func endless() api.Tree {
	l := []api.Tree{{Code: 1}, {Code: 1}}
	l[0].Under, l[1].Under = l, l
	return l[0]
}

func wrong() []api.Tree {
	return []api.Tree{{}, {Code: -1}, tree(1, tree(0)), tree(1, tree(2), tree(3, tree(-5))), tower(33), wide(257), tree(1, wide(200), wide(200)), endless()}
}

func some(r *rand.Rand, deep int) api.Tree {
	t := tree(api.Errno(1 + r.Intn(6)))
	if r.Intn(9) == 0 {
		t.Code = api.Errno(r.Int())
	}
	for n := r.Intn(4); n > 0 && deep > 0; n-- {
		t.Under = append(t.Under, some(r, deep-1))
	}
	return t
}

func TestP5_1MayMakeOf(t *testing.T) {
	for i, x := range wrong() {
		f, e := Of(x)
		if May(x) || f != nil || e != api.ErrArg {
			t.Error(i, f, e)
		}
		if m, e := Make(1, x); e != api.ErrArg || !reflect.DeepEqual(m, api.Tree{}) {
			t.Error(i, e)
		}
	}
	for i, x := range []api.Tree{tree(1), tower(32), wide(256), tree(math.MaxInt), tree(1, wide(200), wide(55))} {
		if f, e := Of(x); !May(x) || f == nil || e != api.OK {
			t.Error(i, e)
		}
	}
	m, e := Make(8, tree(7), tree(9, tree(5)))
	if s, f := Text(m); s != "8(7 9(5))" || e != api.OK || f != api.OK {
		t.Error(s, e, f)
	}
	if m, e := Make(7); e != api.OK || !Same(m, tree(7)) {
		t.Error(m, e)
	}
	for _, c := range []api.Errno{0, -1} {
		if _, e := Make(c); e != api.ErrArg {
			t.Error(c, e)
		}
	}
	if _, e := Make(1, tower(32)); e != api.ErrArg {
		t.Error("too low", e)
	}
	if _, e := Make(1, wide(256)); e != api.ErrArg {
		t.Error("too many", e)
	}
	inner := tree(2, tree(3))
	m, _ = Make(1, inner)
	inner.Under[0].Code = 9
	if !Same(m, tree(1, tree(2, tree(3)))) {
		t.Error("kept what was handed in")
	}
}

func TestP5_1Over(t *testing.T) {
	one, two := errors.New("one"), api.ErrCut
	f, e := Over(7, one, nil, two)
	if e != api.OK || f.Code() != 7 || !reflect.DeepEqual(f.Unwrap(), []error{api.Errno(7), one, two}) || f.Error() == "" {
		t.Error(f, e)
	}
	f.Unwrap()[1] = nil
	if f.Unwrap()[1] != one || !errors.Is(f, one) || !errors.Is(f, api.ErrCut) || errors.Is(f, api.ErrRef) {
		t.Error(f.Unwrap())
	}
	if f, e := Over(7); e != api.OK || !reflect.DeepEqual(f.Unwrap(), []error{api.Errno(7)}) {
		t.Error(f, e)
	}
	for _, c := range []api.Errno{0, -3} {
		if f, e := Over(c, one); f != nil || e != api.ErrArg {
			t.Error(f, e)
		}
	}
}

func TestP5_2Walk(t *testing.T) {
	x := tree(8, tree(7), tree(9, tree(5), tree(7)))
	if !reflect.DeepEqual(Codes(x), []api.Errno{8, 7, 9, 5, 7}) {
		t.Error(Codes(x))
	}
	if !Has(x, 5) || Has(x, 6) || !Has(x, 8) || Has(x, 0) {
		t.Error("has")
	}
	if p, ok := Find(x, 5); !ok || !reflect.DeepEqual(p, []int{1, 0}) {
		t.Error(p, ok)
	}
	if p, ok := Find(x, 7); !ok || !reflect.DeepEqual(p, []int{0}) {
		t.Error(p, ok)
	}
	if p, ok := Find(x, 8); !ok || len(p) != 0 {
		t.Error(p, ok)
	}
	if p, ok := Find(x, 6); ok || p != nil {
		t.Error(p, ok)
	}
	if y, e := At(x, 1); e != api.OK || !Same(y, tree(9, tree(5), tree(7))) {
		t.Error(y, e)
	} else if y.Under[0].Code = 99; x.Under[1].Under[0].Code != 5 {
		t.Error("shared")
	}
	if y, e := At(x); e != api.OK || !Same(y, x) {
		t.Error(y, e)
	}
	for _, p := range [][]int{{2}, {-1}, {0, 0}, {1, 2}} {
		if y, e := At(x, p...); e != api.ErrPath || !reflect.DeepEqual(y, api.Tree{}) {
			t.Error(p, y, e)
		}
	}
	var deep []int
	for d, c := range Each(x) {
		deep = append(deep, d, int(c))
		if c == 5 {
			break
		}
	}
	if !reflect.DeepEqual(deep, []int{1, 8, 2, 7, 2, 9, 3, 5}) {
		t.Error(deep)
	}
	for i, w := range wrong() {
		if p, ok := Find(w, 1); ok || p != nil || Has(w, 1) || Codes(w) != nil {
			t.Error(i)
		}
		if _, e := At(w); e != api.ErrArg {
			t.Error(i, e)
		}
		for range Each(w) {
			t.Error(i)
		}
	}
}

func TestP5_3JoinSame(t *testing.T) {
	if l := Join(tree(8, tree(7)), tree(7, tree(5), tree(5)), api.Tree{}); !reflect.DeepEqual(l, []api.Errno{5, 7, 8}) {
		t.Error(l)
	}
	if l := Join(); len(l) != 0 {
		t.Error(l)
	}
	for i, w := range wrong() {
		if Same(w, w) || Same(w, tree(1)) || Same(tree(1), w) || len(Join(w)) != 0 {
			t.Error(i)
		}
	}
	x := tree(1, tree(2), tree(3))
	if !Same(x, tree(1, tree(2), tree(3))) || Same(x, tree(1, tree(3), tree(2))) || Same(x, tree(1, tree(2))) || Same(x, tree(2, tree(2), tree(3))) || !Same(tree(1), api.Tree{Code: 1, Under: []api.Tree{}}) {
		t.Error("same")
	}
}

func TestP5_4Text(t *testing.T) {
	if x, e := Read("8(7 9(5))"); e != api.OK || !Same(x, tree(8, tree(7), tree(9, tree(5)))) {
		t.Error(x, e)
	}
	deep := strings.Repeat("1(", 31) + "1" + strings.Repeat(")", 31)
	if _, e := Read(deep); e != api.OK {
		t.Error(e)
	}
	if x, e := Read("9223372036854775807"); e != api.OK || x.Code != math.MaxInt64 {
		t.Error(x, e)
	}
	many := "1(" + strings.TrimSpace(strings.Repeat("2 ", 255)) + ")"
	if _, e := Read(many); e != api.OK {
		t.Error(e)
	}
	for _, s := range []string{"8()", "8 ( 7)", "08", "8(7,9)", "", "8(", "8(7", "8)", "8(7))", "8(7 )", "8( 7)", "8(7  9)", "0", "-1", "8(0)", "8(7)(9)", "8 7", "x", "1(" + deep + ")", "9223372036854775808", "1(2 " + many + ")", "8(7 9", "8(7 9)x", "(7)"} {
		if x, e := Read(s); e != api.ErrTree || !reflect.DeepEqual(x, api.Tree{}) {
			t.Error(s, x, e)
		}
	}
	if _, e := Read(strings.Repeat("1", api.MaxTreeText)); e != api.ErrTree {
		t.Error(e)
	}
	if _, e := Read(strings.Repeat("1", api.MaxTreeText+1)); e != api.ErrLong {
		t.Error(e)
	}
	for i, w := range wrong() {
		if s, e := Text(w); s != "" || e != api.ErrArg {
			t.Error(i, s, e)
		}
	}
}

func TestP5_5Met(t *testing.T) {
	n := 0
	if f, met := Met(func() { n++ }); f != nil || met || n != 1 {
		t.Error(f, met, n)
	}
	var m map[int]int
	f, met := Met(func() { n++; m[0] = 1 })
	if f == nil || !met || n != 2 || f.Code() != api.ErrPanic || len(f.Unwrap()) != 2 || f.Unwrap()[0] != api.ErrPanic || f.Error() == "" {
		t.Error(f, met, n)
	}
	wrapped := wrap{}
	if f, met := Met(func() { panic(wrapped) }); !met || f.Unwrap()[1] != wrapped {
		t.Error("an error in which there is a runtime error", f, met)
	}
	if f, met := Met(nil); f == nil || !met {
		t.Error(f, met)
	}
	own := errors.New("own")
	for _, x := range []any{"x", 7, own} {
		func() {
			defer func() {
				if got := recover(); got != x {
					t.Error(got, x)
				}
			}()
			Met(func() { panic(x) })
			t.Error("no panic", x)
		}()
	}
}

// wrap is an error in which there is a runtime error.
type wrap struct{}

func (wrap) Error() string { return "wrap" }
func (wrap) Unwrap() error { return kept{} }

type kept struct{}

func (kept) Error() string { return "kept" }
func (kept) RuntimeError() {}

func TestP5_6Is(t *testing.T) {
	r := rand.New(rand.NewSource(1))
	for range 300 {
		x := some(r, 3)
		f, _ := Of(x)
		for c := api.Errno(0); c < 8; c++ {
			if errors.Is(f, c) != Has(x, c) {
				t.Error(x, c)
			}
		}
		var of api.Fault
		var code api.Errno
		if !errors.As(f, &of) || of != f || !errors.As(f, &code) || code != x.Code || errors.Unwrap(f) != nil {
			t.Error(x)
		}
		s, _ := Text(x)
		if f.Error() != s || f.Code() != x.Code {
			t.Error(f.Error(), s)
		}
		if got := walked(f); !reflect.DeepEqual(got, Codes(x)) {
			t.Error(got, Codes(x))
		}
		f.Unwrap()[0] = nil
		if f.Unwrap()[0] != x.Code {
			t.Error("one list twice")
		}
	}
}

func walked(f api.Fault) []api.Errno {
	codes := []api.Errno{f.Code()}
	for i, err := range f.Unwrap() {
		if i == 0 {
			continue
		}
		codes = append(codes, walked(err.(api.Fault))...)
	}
	return codes
}

func TestP5_7One(t *testing.T) {
	a, _ := Of(tree(1))
	b, _ := Of(tree(1))
	c, _ := Over(1)
	d, _ := Over(1)
	if a == b || a != a || c == d || c != c || a == c {
		t.Error("one")
	}
	if a.Unwrap()[0] != api.Errno(1) {
		t.Error(a.Unwrap())
	}
}

func TestP5_8ThereAndBack(t *testing.T) {
	r := rand.New(rand.NewSource(2))
	for range 500 {
		x := some(r, 4)
		s, _ := Text(x)
		if y, e := Read(s); May(x) && (e != api.OK || !Same(y, x)) {
			t.Error(s, y, e)
		}
		b := []byte(s + " ")
		b[r.Intn(len(b))] = "0123() "[r.Intn(7)]
		if y, e := Read(string(b)); e == api.OK {
			if back, _ := Text(y); back != string(b) {
				t.Error(string(b), back)
			}
		}
		for c := api.Errno(1); c < 7; c++ {
			path, ok := Find(x, c)
			if at, e := At(x, path...); ok && (e != api.OK || at.Code != c) || ok != Has(x, c) {
				t.Error(x, c, path)
			}
		}
	}
}

func TestP5_9Met(t *testing.T) {
	var thing any = 1
	var row1, row2 any = []int{1}, []int{1}
	var l []int
	var m map[int]int
	zero := 0
	for i, do := range []func(){func() { _ = thing.(api.Getter) }, func() { _ = row1 == row2 }, func() { l[zero] = 1 }, func() { m[0] = 1 }, func() { zero = 1 / zero }} {
		f, met := Met(do)
		var found runtime.Error
		if !met || !errors.Is(f, api.ErrPanic) || !errors.As(f, &found) {
			t.Error(i, f, met)
		}
	}
}
