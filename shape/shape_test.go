package shape

import (
	"errors"
	"reflect"
	"runtime"
	"strings"
	"testing"

	"postern/api"
	"postern/value"
)

// called is what a doer was called with.
type called struct {
	r    api.Ref
	able api.Able
	v    api.Value
}

// doer tells what it was called with, and answers what it is told to.
type doer struct {
	calls  []called
	answer api.Value
	err    error
}

func (d *doer) Do(r api.Ref, able api.Able, v api.Value) (api.Value, error) {
	d.calls = append(d.calls, called{r, able, v})
	return d.answer, d.err
}

type breaker struct{ with any }

func (b breaker) Do(api.Ref, api.Able, api.Value) (api.Value, error) { panic(b.with) }

func num(n int64) api.Value         { return api.Value{Kind: api.Number, N: n} }
func list(l ...api.Value) api.Value { return api.Value{Kind: api.List, L: l} }

var wrong = []api.Value{{Kind: 9}, {N: 1}, {Kind: api.Reference}, {Kind: api.Text, S: strings.Repeat("a", 257)}}

// can asks by assertions, as whoever holds a thing does.
func can(t api.Thing) api.Able {
	set := api.None
	if _, ok := t.(api.Getter); ok {
		set |= api.Get
	}
	if _, ok := t.(api.Putter); ok {
		set |= api.Put
	}
	if _, ok := t.(api.Taker); ok {
		set |= api.Take
	}
	if _, ok := t.(api.Giver); ok {
		set |= api.Give
	}
	if _, ok := t.(api.Asker); ok {
		set |= api.Ask
	}
	if _, ok := t.(api.Cutter); ok {
		set |= api.Cut
	}
	return set
}

func TestP6_1Dress(t *testing.T) {
	d := &doer{}
	for _, x := range []api.Thing{Dress(nil, 1, api.Get), Dress(d, 0, api.Get), Dress(d, -1, api.Get), Dress(d, 1, 64), Dress(d, 1, 255)} {
		if x != nil {
			t.Error(x)
		}
	}
	for set := api.Able(0); set < 64; set++ {
		x := Dress(d, 7, set)
		if x == nil || x.Ref() != 7 {
			t.Error(set, x)
		}
	}
}

func TestP6_2Exact(t *testing.T) {
	d := &doer{}
	for set := api.Able(0); set < 64; set++ {
		x := Dress(d, 7, set)
		if can(x) != set {
			t.Error(set, can(x))
		}
		names := ""
		for m := range reflect.TypeOf(x).Methods() {
			names += m.Name + " "
		}
		want := ""
		for _, n := range []struct {
			name string
			in   bool
		}{{"Ask", set&api.Ask != 0}, {"Cut", set&api.Cut != 0}, {"Get", set&api.Get != 0}, {"Give", set&api.Give != 0}, {"Put", set&api.Put != 0}, {"Ref", true}, {"Take", set&api.Take != 0}} {
			if n.in {
				want += n.name + " "
			}
		}
		if names != want {
			t.Error(set, names, want)
		}
		if _, ok := x.(api.Doer); ok {
			t.Error("a doer", set)
		}
		if _, ok := x.(error); ok {
			t.Error("an error", set)
		}
	}
}

func TestP6_3One(t *testing.T) {
	d, e := &doer{}, &doer{}
	if Dress(d, 1, api.Get) != Dress(d, 1, api.Get) || Dress(d, 1, api.Get) == Dress(d, 2, api.Get) || Dress(d, 1, api.Get) == Dress(d, 1, api.All) || Dress(d, 1, api.Get) == Dress(e, 1, api.Get) {
		t.Error("equal")
	}
	keys := map[api.Thing]int{}
	for set := api.Able(0); set < 64; set++ {
		for r := api.Ref(1); r < 3; r++ {
			keys[Dress(d, r, set)]++
			keys[Dress(d, r, set)]++
		}
	}
	if len(keys) != 128 {
		t.Error(len(keys))
	}
}

func TestP6_4Found(t *testing.T) {
	d := &doer{}
	if Found(nil, 1, 1) != 0 || Found(d, 0, 1) != 0 || Found(d, 1, 64) != 0 || Can(nil, 1, 1, 1) || Can(d, 0, 1, 1) || Can(d, 1, 64, 0) || Can(d, 1, 63, 64) || Can(d, 1, 63, 65) {
		t.Error("what is none")
	}
	if Found(d, 1, api.Get|api.Cut) != api.Get|api.Cut || !Can(d, 1, api.Get|api.Cut, api.Cut) || Can(d, 1, api.Get, api.Get|api.Put) || !Can(d, 1, api.Get, api.None) {
		t.Error("the examples")
	}
	if len(d.calls) != 0 {
		t.Error("d was called", d.calls)
	}
}

func TestP6_5Outright(t *testing.T) {
	d := &doer{answer: num(5), err: nil}
	for _, c := range []struct {
		able api.Able
		v    api.Value
	}{{api.Get, num(5)}, {api.Cut, num(5)}, {api.Take, api.Value{Kind: api.Text, S: "x"}}, {api.Take, api.Value{}}, {api.Get | api.Put, api.Value{}}, {0, api.Value{}}, {64, api.Value{}}, {65, api.Value{}},
		{api.Put, wrong[0]}, {api.Give, wrong[1]}, {api.Ask, wrong[2]}} {
		for _, set := range []api.Able{api.All, api.None} {
			if v, err := Outright(d, 1, set, c.able, c.v); err != api.ErrArg || !value.Same(v, api.Value{}) {
				t.Error(c, v, err)
			}
		}
	}
	for _, x := range []struct {
		d   api.Doer
		r   api.Ref
		set api.Able
	}{{nil, 1, 63}, {d, 0, 63}, {d, 1, 64}} {
		if _, err := Outright(x.d, x.r, x.set, api.Get, api.Value{}); err != api.ErrArg {
			t.Error(err)
		}
	}
	if len(d.calls) != 0 {
		t.Error("d was called", d.calls)
	}
	args := map[api.Able]api.Value{api.Get: {}, api.Put: num(1), api.Take: num(2), api.Give: list(num(3)), api.Ask: num(4), api.Cut: {}}
	for able, arg := range args {
		silent := able == api.Put || able == api.Give || able == api.Cut
		d.calls = nil
		v, err := Outright(d, 3, able, able, arg)
		if err != nil || value.Same(v, num(5)) == silent || len(d.calls) != 1 || d.calls[0].r != 3 || d.calls[0].able != able || !value.Same(d.calls[0].v, arg) {
			t.Error(able, v, err, d.calls)
		}
		d.calls = nil
		v, err = Outright(d, 3, api.All&^able, able, arg)
		var fault api.Fault
		var found runtime.Error
		if !errors.As(err, &fault) || fault.Code() != api.ErrPanic || !errors.As(err, &found) || !strings.Contains(found.Error(), "missing method") || !value.Same(v, api.Value{}) || len(d.calls) != 0 {
			t.Error(able, v, err, d.calls)
		}
	}
	d.err = errors.New("own")
	if v, err := Outright(d, 1, api.All, api.Get, api.Value{}); err != d.err || !value.Same(v, api.Value{}) {
		t.Error(v, err)
	}
	var nothing []int
	_, far := func() (x int, e any) { defer func() { e = recover() }(); return nothing[len(nothing)], nil }()
	for _, with := range []any{"x", far} {
		func() {
			defer func() {
				if met := recover(); met != with {
					t.Error("another panic", met)
				}
			}()
			Outright(breaker{with}, 1, api.All, api.Get, api.Value{})
			t.Error("no panic")
		}()
	}
}

type plain struct{ r api.Ref }

func (p plain) Ref() api.Ref { return p.r }

type loose struct{ l []int }

func (loose) Ref() api.Ref { return 1 }

func TestP6_6Unlike(t *testing.T) {
	d := &doer{}
	a, b := Dress(d, 1, api.Get), Dress(d, 2, api.Get)
	for i, c := range []struct {
		l []api.Thing
		n int
		e api.Errno
	}{{[]api.Thing{a, a, b}, 2, 0}, {nil, 0, 0}, {[]api.Thing{nil}, 1, 0}, {[]api.Thing{nil, a, nil, plain{1}, plain{1}, plain{2}}, 4, 0}, {[]api.Thing{loose{}}, 0, api.ErrUnlike}, {[]api.Thing{a, loose{}, b}, 0, api.ErrUnlike},
		{[]api.Thing{a, Dress(d, 1, api.Put)}, 2, 0}} {
		if n, e := Unlike(c.l...); n != c.n || e != c.e {
			t.Error(i, n, e)
		}
	}
}

func TestP6_7Sets(t *testing.T) {
	d := &doer{}
	for set := api.Able(0); set < 64; set++ {
		if Found(d, 1, set) != set {
			t.Error(set)
		}
		for want := api.Able(0); want < 64; want++ {
			if Can(d, 1, set, want) != (want&^set == 0) {
				t.Error(set, want)
			}
		}
		for able := api.Get; able <= api.Cut; able <<= 1 {
			arg := api.Value{}
			if able == api.Take {
				arg = num(1)
			}
			_, err := Outright(d, 1, set, able, arg)
			if errors.Is(err, api.ErrPanic) != (set&able == 0) {
				t.Error(set, able, err)
			}
		}
	}
}

func TestP6_8Live(t *testing.T) {
	inner := list(num(1))
	d := &doer{answer: inner}
	x := Dress(d, 9, api.All)
	v, err := x.(api.Getter).Get()
	if err != nil || !value.Same(v, inner) {
		t.Error(v, err)
	}
	v.L[0] = num(7)
	if inner.L[0].N != 1 {
		t.Error("the answer is shared")
	}
	arg := list(num(2))
	if err := x.(api.Putter).Put(arg); err != nil {
		t.Error(err)
	}
	d.calls[1].v.L[0] = num(3)
	if arg.L[0].N != 2 {
		t.Error("the argument is shared")
	}
	x.(api.Taker).Take(-5)
	x.(api.Giver).Give(num(6))
	x.(api.Asker).Ask(num(8))
	x.(api.Cutter).Cut()
	want := []called{{9, api.Get, api.Value{}}, {9, api.Put, list(num(3))}, {9, api.Take, num(-5)}, {9, api.Give, num(6)}, {9, api.Ask, num(8)}, {9, api.Cut, api.Value{}}}
	if !reflect.DeepEqual(d.calls, want) {
		t.Error(d.calls)
	}
	d.calls, d.err = nil, errors.New("own")
	if v, err := x.(api.Asker).Ask(num(1)); err != d.err || !value.Same(v, api.Value{}) {
		t.Error(v, err)
	}
	if err := x.(api.Cutter).Cut(); err != d.err {
		t.Error(err)
	}
	d.calls = nil
	for _, w := range wrong {
		_, err := x.(api.Asker).Ask(w)
		if x.(api.Putter).Put(w) != api.ErrArg || x.(api.Giver).Give(w) != api.ErrArg || err != api.ErrArg || len(d.calls) != 0 {
			t.Error(w, err, d.calls)
		}
	}
}
