package brand

import (
	"errors"
	"math/rand"
	"reflect"
	"runtime"
	"strings"
	"testing"

	"postern/api"
	"postern/value"
)

func num(n int64) api.Value         { return api.Value{Kind: api.Number, N: n} }
func txt(s string) api.Value        { return api.Value{Kind: api.Text, S: s} }
func ref(r api.Ref) api.Value       { return api.Value{Kind: api.Reference, R: r} }
func list(l ...api.Value) api.Value { return api.Value{Kind: api.List, L: l} }

func wrong() []api.Value {
	return []api.Value{ref(0), {Kind: 9}, {N: 1}, txt(strings.Repeat("a", 257)), list(make([]api.Value, 512)...)}
}

// some makes a value by chance, of few kinds, so that many are the same.
func some(r *rand.Rand, deep int) api.Value {
	switch k := r.Intn(7); {
	case k == 0:
		return api.Value{}
	case k == 1:
		return num(int64(r.Intn(2)))
	case k == 2:
		return txt("a")
	case k == 3 || deep == 0:
		return ref(api.Ref(1 + r.Intn(2)))
	}
	v := list()
	for n := []int{2, 2, 2, 2, 0, 1, 3}[r.Intn(7)]; n > 0; n-- {
		v.L = append(v.L, some(r, deep-1))
	}
	return v
}

// goes tells what x == y comes to, as Go does it here.
func goes(t *testing.T, x, y api.Mark) (c api.Compared) {
	defer func() {
		if met := recover(); met != nil {
			if _, ok := met.(runtime.Error); !ok {
				t.Error("no runtime error", met)
			}
			c = api.Panics
		}
	}()
	if x == y {
		return api.Equal
	}
	return api.Unequal
}

func TestP4_1Of(t *testing.T) {
	for _, v := range []api.Value{{}, num(7), txt("a"), ref(3), list(), list(num(1)), list(num(1), list(ref(2), txt("x"))), list(num(1), num(2), num(3)), list(list(), num(1))} {
		m, e := Of(v)
		if e != api.OK || m == nil || !value.Same(m.Told(), v) {
			t.Fatal(v, m, e)
		}
		if reflect.TypeOf(m).NumMethod() != 1 {
			t.Error("more than Told", v)
		}
		if told := m.Told(); len(told.L) > 0 {
			told.L[0] = txt("written over")
			if !value.Same(m.Told(), v) {
				t.Error("shared")
			}
		}
	}
	v := list(num(1))
	m, _ := Of(v)
	v.L[0] = num(2)
	if !value.Same(m.Told(), list(num(1))) {
		t.Error("kept what was handed in")
	}
	for _, v := range wrong() {
		if m, e := Of(v); m != nil || e != api.ErrArg {
			t.Error(m, e)
		}
	}
}

func TestP4_2Compare(t *testing.T) {
	row := list()
	for _, c := range []struct {
		a, b api.Value
		want api.Compared
	}{
		{num(1), num(1), api.Equal}, {num(1), num(2), api.Unequal}, {num(1), txt("1"), api.Unequal}, {row, row, api.Panics}, {list(num(1), num(2), num(3)), num(1), api.Unequal},
		{list(num(1), num(2)), list(num(1), num(2)), api.Equal}, {list(num(1), row), list(num(2), row), api.Unequal}, {list(num(1), row), list(num(1), row), api.Panics},
		{list(row, num(1)), list(row, num(2)), api.Panics}, {list(num(1), row), list(num(1), num(2)), api.Unequal}, {row, list(num(1), num(2)), api.Unequal}, {row, list(num(1)), api.Panics},
		{api.Value{}, api.Value{}, api.Equal}, {api.Value{}, num(0), api.Unequal}, {ref(1), ref(1), api.Equal}, {ref(1), num(1), api.Unequal}, {txt(""), api.Value{}, api.Unequal},
		{list(num(1), list(num(2), num(3))), list(num(1), list(num(2), num(4))), api.Unequal},
	} {
		if got, e := Compare(c.a, c.b); got != c.want || e != api.OK {
			t.Error(c, got, e)
		}
	}
	for v, want := range map[string]bool{"1": true, "[1 2]": true, "[1]": false, "[1 [2 []]]": false} {
		x := map[string]api.Value{"1": num(1), "[1 2]": list(num(1), num(2)), "[1]": list(num(1)), "[1 [2 []]]": list(num(1), list(num(2), row))}[v]
		if got, e := Keys(x); got != want || e != api.OK {
			t.Error(v, got, e)
		}
	}
	for _, v := range wrong() {
		if c, e := Compare(v, num(1)); c != api.Unequal || e != api.ErrArg {
			t.Error(c, e)
		}
		if c, e := Compare(row, v); c != api.Unequal || e != api.ErrArg {
			t.Error(c, e)
		}
		if k, e := Keys(v); k || e != api.ErrArg {
			t.Error(k, e)
		}
	}
}

func TestP4_3Table(t *testing.T) {
	b := New()
	put := func(k, v, old api.Value, had bool, e api.Errno) {
		t.Helper()
		if o, h, f := b.Put(k, v); !value.Same(o, old) || h != had || f != e {
			t.Error(k, o, h, f)
		}
	}
	none := api.Value{}
	put(txt("a"), num(1), none, false, api.OK)
	put(txt("a"), num(2), num(1), true, api.OK)
	put(num(7), list(num(3)), none, false, api.OK)
	put(list(), num(4), none, false, api.ErrKey)
	put(list(), ref(0), none, false, api.ErrArg)
	put(ref(0), num(4), none, false, api.ErrArg)
	if b.Len() != 2 {
		t.Error(b.Len())
	}
	get := func(k, v api.Value, had bool, e api.Errno) {
		t.Helper()
		if x, h, f := b.Get(k); !value.Same(x, v) || h != had || f != e {
			t.Error(k, x, h, f)
		}
	}
	get(txt("a"), num(2), true, api.OK)
	get(txt("b"), none, false, api.OK)
	get(list(), none, false, api.ErrKey)
	get(ref(0), none, false, api.ErrArg)
	x, _, _ := b.Get(num(7))
	x.L[0] = num(9)
	get(num(7), list(num(3)), true, api.OK)
	drop := func(k api.Value, had bool, e api.Errno) {
		t.Helper()
		if h, f := b.Drop(k); h != had || f != e {
			t.Error(k, h, f)
		}
	}
	drop(txt("a"), true, api.OK)
	drop(txt("a"), false, api.OK)
	drop(list(), false, api.ErrKey)
	drop(ref(0), false, api.ErrArg)
	get(txt("a"), none, false, api.OK)
	for _, z := range []*Table{nil, {}} {
		if _, had, e := z.Put(ref(0), num(1)); had || e != api.ErrNil {
			t.Error(e)
		}
		if _, had, e := z.Get(list()); had || e != api.ErrNil {
			t.Error(e)
		}
		if had, e := z.Drop(num(1)); had || e != api.ErrNil {
			t.Error(e)
		}
		if z.Len() != 0 || z.Copy() != nil {
			t.Error("nil")
		}
		for k := range z.All() {
			t.Error(k)
		}
	}
}

func keys(b *Table) []int64 {
	var l []int64
	for k := range b.All() {
		l = append(l, k.N)
	}
	return l
}

func TestP4_4All(t *testing.T) {
	b := New()
	for _, n := range []int64{5, 3, 9, 1} {
		b.Put(num(n), num(n))
	}
	b.Put(num(3), num(30))
	b.Drop(num(5))
	b.Put(num(5), list(num(50)))
	all := b.All()
	if !reflect.DeepEqual(keys(b), []int64{3, 9, 1, 5}) || b.Len() != 4 {
		t.Error(keys(b))
	}
	c := b.Copy()
	c.Put(num(2), num(2))
	c.Drop(num(9))
	if !reflect.DeepEqual(keys(b), []int64{3, 9, 1, 5}) || !reflect.DeepEqual(keys(c), []int64{3, 1, 5, 2}) {
		t.Error(keys(b), keys(c))
	}
	b.Put(num(8), num(8))
	n := 0
	for k, v := range all {
		n++
		b.Drop(k)
		if len(v.L) > 0 {
			v.L[0] = num(0)
		}
	}
	if n != 5 || b.Len() != 0 {
		t.Error("what there was when going over it began", n, b.Len())
	}
	for _, v := range c.All() {
		if len(v.L) > 0 && v.L[0].N != 50 {
			t.Error("shared")
		}
	}
	for range c.All() {
		break
	}
}

func TestP4_5AsGoHasIt(t *testing.T) {
	r := rand.New(rand.NewSource(1))
	for range 3000 {
		u, v := some(r, 4), some(r, 4)
		x, _ := Of(u)
		y, _ := Of(v)
		want, _ := Compare(u, v)
		if got := goes(t, x, y); got != want {
			t.Error(u, v, got, want)
		}
		for _, m := range []map[api.Mark]int{{}, {number{77}: 1}} {
			takes := func() (ok bool) {
				defer func() {
					if met := recover(); met != nil {
						_ = met.(runtime.Error)
						ok = false
					}
				}()
				m[x] = 1
				return true
			}()
			if k, _ := Keys(u); k != takes {
				t.Error(u, k, takes)
			}
		}
	}
	var err error
	func() {
		defer func() { err, _ = recover().(error) }()
		panics(func() { panic(errors.New("own")) })
	}()
	if err == nil || err.Error() != "own" {
		t.Error("a panic that is no runtime error goes on", err)
	}
}

func TestP4_6Same(t *testing.T) {
	r := rand.New(rand.NewSource(2))
	for range 3000 {
		u, v := some(r, 3), some(r, 3)
		a, _ := Compare(u, v)
		b, _ := Compare(v, u)
		self, _ := Compare(u, u)
		k, _ := Keys(u)
		if a != b || k != (self == api.Equal) || !k != (self == api.Panics) {
			t.Error(u, v, a, b, self, k)
		}
		if a == api.Equal && !value.Same(u, v) || k && value.Same(u, v) && a != api.Equal {
			t.Error(u, v, a)
		}
	}
}

func TestP4_7ListOfPairs(t *testing.T) {
	r := rand.New(rand.NewSource(3))
	b := New()
	var pairs [][2]api.Value
	for range 2000 {
		k, v := some(r, 2), some(r, 2)
		if ok, _ := Keys(k); !ok {
			continue
		}
		at := -1
		for i, p := range pairs {
			if value.Same(p[0], k) {
				at = i
			}
		}
		old := api.Value{}
		if at >= 0 {
			old = pairs[at][1]
		}
		if r.Intn(2) == 0 {
			o, had, _ := b.Put(k, v)
			if had != (at >= 0) || !value.Same(o, old) {
				t.Error(k, o, had)
			}
			if at >= 0 {
				pairs[at][1] = v
			} else {
				pairs = append(pairs, [2]api.Value{k, v})
			}
		} else {
			if had, _ := b.Drop(k); had != (at >= 0) {
				t.Error(k, had)
			}
			if at >= 0 {
				pairs = append(pairs[:at:at], pairs[at+1:]...)
			}
		}
		i := 0
		for k, v := range b.All() {
			if i >= len(pairs) || !value.Same(k, pairs[i][0]) || !value.Same(v, pairs[i][1]) {
				t.Fatal("another order", i)
			}
			i++
		}
		if i != len(pairs) || b.Len() != i {
			t.Fatal(i, len(pairs))
		}
	}
}
