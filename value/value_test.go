package value

import (
	"math"
	"math/rand"
	"reflect"
	"strings"
	"testing"

	"postern/api"
)

func num(n int64) api.Value         { return api.Value{Kind: api.Number, N: n} }
func text(s string) api.Value       { return api.Value{Kind: api.Text, S: s} }
func ref(r api.Ref) api.Value       { return api.Value{Kind: api.Reference, R: r} }
func list(l ...api.Value) api.Value { return api.Value{Kind: api.List, L: l} }
func refs(l ...api.Ref) []api.Ref   { return l }
func equal(a, b api.Value) bool     { return reflect.DeepEqual(a, b) }
func tower(n int) api.Value         { return nest(n, list()) }
func many(n int) api.Value          { return list(make([]api.Value, n)...) }
func place(l ...int) []int          { return l }
func endless() api.Value            { l := make([]api.Value, 2); l[0] = list(l...); l[0].L = l; return list(l...) }
func nest(n int, v api.Value) (w api.Value) {
	for w = v; n > 1; n-- {
		w = list(w)
	}
	return w
}

// some makes a value by chance.
func some(r *rand.Rand, deep int) api.Value {
	switch k := r.Intn(6); {
	case k == 0:
		return api.Value{}
	case k == 1:
		return num([]int64{0, 1, -1, math.MaxInt64, math.MinInt64, r.Int63() - r.Int63()}[r.Intn(6)])
	case k == 2:
		return text(strings.Repeat(string(rune('a'+r.Intn(3))), r.Intn(3)))
	case k == 3 || deep == 0:
		return ref(api.Ref(1 + r.Intn(5)))
	}
	v := list()
	for n := r.Intn(4); n > 0; n-- {
		v.L = append(v.L, some(r, deep-1))
	}
	return v
}

// wrong are values that may not be.
func wrong() []api.Value {
	return []api.Value{
		{Kind: 5}, {Kind: 255}, {N: 1}, {S: "a"}, {R: 1}, {L: []api.Value{{}}},
		{Kind: api.Number, S: "a"}, {Kind: api.Number, R: 1}, {Kind: api.Number, L: []api.Value{{}}},
		{Kind: api.Text, N: 1}, {Kind: api.Text, R: 1}, {Kind: api.Text, L: []api.Value{{}}},
		{Kind: api.List, N: 1}, {Kind: api.List, S: "a"}, {Kind: api.List, R: 1},
		{Kind: api.Reference}, {Kind: api.Reference, R: -1}, {Kind: api.Reference, R: 1, N: 1},
		{Kind: api.Reference, R: 1, S: "a"}, {Kind: api.Reference, R: 1, L: []api.Value{{}}},
		text(strings.Repeat("a", 257)), list(text(strings.Repeat("a", 257))),
		tower(17), many(512), list(list(many(300), many(300)), num(1)), endless(), list(num(1), api.Value{Kind: 9}),
	}
}

func right() []api.Value {
	return []api.Value{
		{}, {L: []api.Value{}}, num(0), num(-5), {Kind: api.Number, L: []api.Value{}}, text(""), text("\xff\x00"), text(strings.Repeat("a", 256)),
		ref(1), ref(math.MaxInt64), list(), {Kind: api.List, L: []api.Value{}}, tower(16), nest(17, num(1)), many(511), list(many(300), many(209)),
	}
}

func TestP2_1May(t *testing.T) {
	for i, v := range right() {
		if !May(v) || Parts(v) < 1 {
			t.Error("may be:", i)
		}
	}
	for i, v := range wrong() {
		if May(v) || Parts(v) != 0 || Deep(v) != 0 || Refs(v) != nil {
			t.Error("may not be:", i)
		}
	}
	v := list(num(1), list(ref(7), text("a")), ref(7), list())
	if Parts(v) != 7 || Deep(v) != 2 || !reflect.DeepEqual(Refs(v), refs(7, 7)) {
		t.Error(Parts(v), Deep(v), Refs(v))
	}
	if Parts(api.Value{}) != 1 || Deep(api.Value{}) != 0 || Parts(list()) != 1 || Deep(list()) != 1 || Deep(tower(16)) != 16 || Parts(many(511)) != 512 {
		t.Error("parts, deep")
	}
}

func TestP2_2Places(t *testing.T) {
	v := list(num(1), list(ref(7), text("a")), ref(7), list())
	var got []api.Parted
	for p := range Each(v) {
		got = append(got, p)
	}
	want := []api.Parted{{Place: nil, Value: v}, {Place: place(0), Value: num(1)}, {Place: place(1), Value: v.L[1]}, {Place: place(1, 0), Value: ref(7)},
		{Place: place(1, 1), Value: text("a")}, {Place: place(2), Value: ref(7)}, {Place: place(3), Value: list()}}
	if len(got) != len(want) {
		t.Fatal(got)
	}
	for i := range got {
		if !reflect.DeepEqual(append([]int{}, got[i].Place...), append([]int{}, want[i].Place...)) || !Same(got[i].Value, want[i].Value) {
			t.Error(i, got[i])
		}
	}
	for i, w := range wrong() {
		for p := range Each(w) {
			t.Error(i, p)
		}
		if x, e := At(w); e != api.ErrArg || !equal(x, api.Value{}) {
			t.Error(i, x, e)
		}
		if _, e := With(w, num(1)); e != api.ErrArg {
			t.Error(i, e)
		}
		if _, e := With(num(1), w); e != api.ErrArg {
			t.Error(i, e)
		}
	}
	for _, c := range []struct {
		at   []int
		want api.Value
		e    api.Errno
	}{{place(1, 0), ref(7), 0}, {place(4), api.Value{}, api.ErrPlace}, {place(0, 0), api.Value{}, api.ErrPlace}, {nil, v, 0}, {place(-1), api.Value{}, api.ErrPlace}, {place(3, 0), api.Value{}, api.ErrPlace}} {
		if x, e := At(v, c.at...); e != c.e || !Same(x, c.want) {
			t.Error(c.at, x, e)
		}
	}
}

func TestP2_2With(t *testing.T) {
	v := list(num(1), num(2))
	if x, e := With(v, text("x"), 1); e != api.OK || !equal(x, list(num(1), text("x"))) || !equal(v, list(num(1), num(2))) {
		t.Error(x, e, v)
	}
	if x, e := With(list(num(1)), num(2)); e != api.OK || !equal(x, num(2)) {
		t.Error(x, e)
	}
	for _, at := range [][]int{place(2), place(-1), place(0, 0)} {
		if x, e := With(v, num(1), at...); e != api.ErrPlace || !equal(x, api.Value{}) {
			t.Error(at, x, e)
		}
	}
	if x, e := With(many(511), list(num(1)), 7); e != api.ErrLong || !equal(x, api.Value{}) {
		t.Error("too many parts", e)
	}
	if _, e := With(many(511), num(1), 7); e != api.OK {
		t.Error(e)
	}
	if _, e := With(list(num(1)), tower(16), 0); e != api.ErrLong {
		t.Error("too deep", e)
	}
	if _, e := With(list(num(1)), tower(16), 1); e != api.ErrPlace {
		t.Error("the place comes first", e)
	}
}

func TestP2_3Order(t *testing.T) {
	rising := []api.Value{{}, num(math.MinInt64), num(-1), num(0), num(math.MaxInt64), text(""), text("a"), text("ab"), text("b"), text("\xff"),
		list(), list(api.Value{}), list(num(1)), list(num(1), api.Value{}), list(num(1), num(1)), list(num(2)), list(list()), ref(1), ref(2), ref(1 << 40)}
	for i, a := range rising {
		for j, b := range rising {
			want := 0
			if i < j {
				want = -1
			} else if i > j {
				want = 1
			}
			if o, e := Order(a, b); o != want || e != api.OK || Same(a, b) != (i == j) {
				t.Error(a, b, o, e)
			}
		}
	}
	for i, w := range wrong() {
		if o, e := Order(w, num(1)); o != 0 || e != api.ErrArg || Same(w, w) {
			t.Error(i, o, e)
		}
		if o, e := Order(num(1), w); o != 0 || e != api.ErrArg {
			t.Error(i, o, e)
		}
		if l, e := Sort(num(1), w); l != nil || e != api.ErrArg {
			t.Error(i, l, e)
		}
	}
	got, e := Sort(ref(2), num(3), text("b"), num(3), list(), text("a"), api.Value{})
	if e != api.OK || !reflect.DeepEqual(got, []api.Value{{}, num(3), num(3), text("a"), text("b"), list(), ref(2)}) {
		t.Error(got, e)
	}
	if got, e := Sort(); len(got) != 0 || e != api.OK {
		t.Error(got, e)
	}
}

func TestP2_4OwnOfRename(t *testing.T) {
	v := list(num(1), list(text("a")))
	own, e := Own(v)
	own.L[1].L[0] = num(9)
	if e != api.OK || !equal(v, list(num(1), list(text("a")))) {
		t.Error("shared", v, e)
	}
	of, e := Of(v, v)
	if e != api.OK || !equal(of, list(v, v)) {
		t.Error(of, e)
	}
	of.L[0].L[0] = num(9)
	if of.L[1].L[0].N != 1 || v.L[0].N != 1 {
		t.Error("shared")
	}
	if of, e := Of(); e != api.OK || of.Kind != api.List || len(of.L) != 0 {
		t.Error(of, e)
	}
	if _, e := Of(make([]api.Value, 512)...); e != api.ErrLong {
		t.Error(e)
	}
	if _, e := Of(make([]api.Value, 511)...); e != api.OK {
		t.Error(e)
	}
	if _, e := Of(tower(16)); e != api.ErrLong {
		t.Error(e)
	}
	for i, w := range wrong() {
		if _, e := Own(w); e != api.ErrArg {
			t.Error(i, e)
		}
		if _, e := Of(append(make([]api.Value, 600), w)...); e != api.ErrArg {
			t.Error(i, e)
		}
		if _, e := Rename(w, nil, nil); e != api.ErrArg {
			t.Error(i, e)
		}
	}
	for _, c := range []struct {
		v        api.Value
		from, to []api.Ref
		want     api.Value
		e        api.Errno
	}{
		{list(ref(7), ref(9), ref(7)), refs(7, 9), refs(1, 2), list(ref(1), ref(2), ref(1)), 0},
		{list(ref(7)), refs(9), refs(1), api.Value{}, api.ErrNamed}, {num(5), nil, nil, num(5), 0},
		{ref(7), refs(7, 7), refs(1, 2), ref(1), 0}, {ref(1), refs(1, 2), refs(2, 3), ref(2), 0},
		{ref(7), refs(7), refs(0), api.Value{}, api.ErrArg}, {ref(7), refs(7, -1), refs(1, 1), api.Value{}, api.ErrArg}, {ref(7), refs(7, 8), refs(1), api.Value{}, api.ErrArg},
		{list(ref(7), ref(8)), refs(7), refs(1), api.Value{}, api.ErrNamed},
	} {
		if x, e := Rename(c.v, c.from, c.to); e != c.e || !equal(x, c.want) {
			t.Error(c, x, e)
		}
	}
}

func TestP2_5Bytes(t *testing.T) {
	for _, c := range []struct {
		v    api.Value
		want string
	}{{api.Value{}, "\x00"}, {num(-1), "\x01\x7f\xff\xff\xff\xff\xff\xff\xff"}, {num(1), "\x01\x80\x00\x00\x00\x00\x00\x00\x01"}, {text("ab"), "\x02\x00\x02ab"},
		{list(ref(7)), "\x03\x00\x01\x04\x00\x00\x00\x07"}, {ref(api.MaxRef), "\x04\xff\xff\xff\xff"}, {list(), "\x03\x00\x00"}} {
		if s, e := Bytes(c.v); s != c.want || e != api.OK {
			t.Errorf("%x %v", s, e)
		}
		if v, e := Read(c.want); !Same(v, c.v) || e != api.OK {
			t.Error(v, e)
		}
		if v, rest, e := Front(c.want + "\x00z"); !Same(v, c.v) || rest != "\x00z" || e != api.OK {
			t.Error(v, rest, e)
		}
	}
	for i, w := range append(wrong(), ref(api.MaxRef+1), list(ref(1<<40))) {
		if s, e := Bytes(w); s != "" || e != api.ErrArg {
			t.Error(i, s, e)
		}
	}
	long, _ := Bytes(text(strings.Repeat("a", 256)))
	full, _ := Bytes(many(511))
	deep, _ := Bytes(tower(16))
	for _, s := range []string{"", "\x05", "\x01\x00", "\x04\x00\x00\x00\x00", "\x04\x00\x00\x00", "\x02\x00\x03ab", "\x02\x00", "\x03\x00\x01", "\x03\x00",
		"\x02\x01\x01" + strings.Repeat("a", 257), "\x03\x02\x00" + strings.Repeat("\x00", 512), "\x03\x00\x01" + deep, "\x03\x00\x02" + full + "\x00"} {
		if v, e := Read(s); e != api.ErrBytes || !equal(v, api.Value{}) {
			t.Errorf("%x %v %v", s, v, e)
		}
		if v, rest, e := Front(s); e != api.ErrBytes || !equal(v, api.Value{}) || rest != "" {
			t.Errorf("%x %v %v", s, v, e)
		}
	}
	for _, s := range []string{long, full, deep} {
		if _, e := Read(s); e != api.OK {
			t.Error(e)
		}
	}
	if _, e := Read("\x00\x00"); e != api.ErrBytes {
		t.Error(e)
	}
	if _, e := Read(strings.Repeat("\x00", api.MaxBytes)); e != api.ErrBytes {
		t.Error(e)
	}
	if _, e := Read(strings.Repeat("\x00", api.MaxBytes+1)); e != api.ErrLong {
		t.Error(e)
	}
}

func TestP2_6TotalOrder(t *testing.T) {
	r := rand.New(rand.NewSource(1))
	var l []api.Value
	for range 60 {
		l = append(l, some(r, 3))
	}
	for _, a := range l {
		for _, b := range l {
			ab, _ := Order(a, b)
			ba, _ := Order(b, a)
			if ab != -ba || Same(a, b) != (ab == 0) {
				t.Error(a, b, ab, ba)
			}
			for _, c := range l {
				bc, _ := Order(b, c)
				ac, _ := Order(a, c)
				if ab <= 0 && bc <= 0 && ac > 0 {
					t.Error(a, b, c)
				}
			}
		}
	}
	first, _ := Sort(l...)
	r.Shuffle(len(l), func(i, j int) { l[i], l[j] = l[j], l[i] })
	again, _ := Sort(l...)
	for i := range first {
		if !Same(first[i], again[i]) || i > 0 && order(first[i-1], first[i]) > 0 {
			t.Error(i)
		}
	}
}

func TestP2_7Walk(t *testing.T) {
	r := rand.New(rand.NewSource(2))
	for range 200 {
		v := some(r, 4)
		parts, deep := 0, 0
		var met []api.Ref
		for p := range Each(v) {
			parts++
			d := len(p.Place)
			if p.Value.Kind == api.List && len(p.Value.L) == 0 {
				d++
			}
			deep = max(deep, d)
			if p.Value.Kind == api.Reference {
				met = append(met, p.Value.R)
			}
			at, e := At(v, p.Place...)
			back, f := With(v, at, p.Place...)
			if e != api.OK || f != api.OK || !Same(at, p.Value) || !Same(back, v) {
				t.Error(v, p, at, back)
			}
			for i := range p.Place {
				p.Place[i] = 99
			}
			for i := range p.Value.L {
				p.Value.L[i] = text("written over")
			}
		}
		if Parts(v) != parts || Deep(v) != deep || !reflect.DeepEqual(Refs(v), met) {
			t.Error(v, parts, deep, met)
		}
	}
}

func TestP2_8Renaming(t *testing.T) {
	r := rand.New(rand.NewSource(3))
	from, to, next := refs(1, 2, 3, 4, 5), refs(9, 3, 1, 7, 2), refs(5, 6, 7, 8, 9, 10, 11, 12, 13)
	for range 200 {
		v := some(r, 4)
		once, e := Rename(v, from, to)
		if e != api.OK || len(Refs(once)) != len(Refs(v)) {
			t.Fatal(v, once, e)
		}
		for i, x := range Refs(v) {
			if Refs(once)[i] != to[x-1] {
				t.Error(v, once)
			}
		}
		back, _ := Rename(once, to, from)
		if !Same(back, v) {
			t.Error(v, back)
		}
		var both []api.Ref
		for _, x := range to {
			both = append(both, next[x-1])
		}
		twice, _ := Rename(once, refs(1, 2, 3, 4, 5, 6, 7, 8, 9), next)
		atOnce, _ := Rename(v, from, both)
		if !Same(twice, atOnce) {
			t.Error(v, twice, atOnce)
		}
		if left, e := Rename(v, nil, nil); len(Refs(v)) == 0 && (e != api.OK || !Same(left, v)) {
			t.Error(v, left, e)
		}
	}
}

func TestP2_9OneForm(t *testing.T) {
	r := rand.New(rand.NewSource(4))
	for range 300 {
		v, w := some(r, 4), some(r, 4)
		s, _ := Bytes(v)
		if x, e := Read(s); e != api.OK || !Same(x, v) {
			t.Error(v, x, e)
		}
		z, _ := Bytes(w)
		if x, rest, e := Front(s + z); e != api.OK || !Same(x, v) || rest != z {
			t.Error(v, x, rest, e)
		}
		if (s == z) != Same(v, w) {
			t.Error(v, w)
		}
		if v.Kind == w.Kind && (v.Kind == api.Number || v.Kind == api.Reference) && sign(int(order(v, w)), 0) != strings.Compare(s, z) {
			t.Error("order of bytes", v, w)
		}
		b := []byte(s)
		b[r.Intn(len(b))] ^= byte(1 + r.Intn(255))
		if x, e := Read(string(b)); e == api.OK {
			if back, _ := Bytes(x); back != string(b) {
				t.Errorf("%x %v", b, x)
			}
		}
	}
}
