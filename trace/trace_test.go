package trace

import (
	"math/rand"
	"reflect"
	"slices"
	"strings"
	"testing"

	"postern/api"
	"postern/lang"
	"postern/pick"
	"postern/run"
	"postern/value"
	"postern/world"
)

func ref(r api.Ref) api.Value       { return api.Value{Kind: api.Reference, R: r} }
func list(l ...api.Value) api.Value { return api.Value{Kind: api.List, L: l} }
func refs(l ...api.Ref) []api.Ref   { return l }
func at(n, d int) api.Moment        { return api.Moment{Done: n, Deed: d} }
func sub(n int) api.Node            { return api.Node{Who: n} }
func is(r api.Ref) api.Node         { return api.Node{Is: true, Ref: r} }
func came1(to api.Node, r api.Ref, m api.Moment) api.Coming {
	return api.Coming{To: to, Ref: r, At: m}
}

// subject makes a subject of code and of names, each a name and a value or a thing.
func subject1(t *testing.T, w *world.World, s string, l ...any) api.Subject {
	t.Helper()
	c, at, e := lang.Read(s)
	if e != api.OK {
		t.Fatal(s, at, e)
	}
	var names []api.Name
	for i := 0; i < len(l); i += 2 {
		v, ok := l[i+1].(api.Value)
		if !ok {
			v = ref(l[i+1].(api.Ref))
		}
		names = append(names, api.Name{Name: l[i].(string), Value: v})
	}
	x, e := run.New(w, 0, c, names)
	if e != api.OK {
		t.Fatal(s, e)
	}
	return x
}

func play(t *testing.T, w *world.World, l ...api.Subject) *pick.Play {
	t.Helper()
	p, e := pick.New(w, l...)
	if e != api.OK {
		t.Fatal(e)
	}
	return p
}

func of(t *testing.T, p *pick.Play) *Trace {
	t.Helper()
	x, e := Of(p)
	if e != api.OK {
		t.Fatal(e)
	}
	return x
}

// chapter is the Play of the chapter's examples: the cell 1, the log 2, the facet 3 of 1, and 4 that is made: it is 3 itself.
func chapter(t *testing.T) (*pick.Play, *Trace) {
	t.Helper()
	w, _ := world.New()
	w.Make(api.What{Kind: api.Cell})
	w.Make(api.What{Kind: api.Log})
	w.Facet(1, api.Get)
	p := play(t, w, subject1(t, w, "x = put c l", "c", api.Ref(1), "l", api.Ref(2)), subject1(t, w, "y = get g ; f = facet1 ; f = make facet y get", "g", api.Ref(3)))
	p.Do(api.Turn{Who: 0}, api.Turn{Who: 1}, api.Turn{Who: 1}, api.Turn{Who: 1})
	return p, of(t, p)
}

const (
	c = api.Ref(1)
	l = api.Ref(2)
	g = api.Ref(3)
	f = api.Ref(4)
)

func TestNilTraces(t *testing.T) {
	for _, p := range []*pick.Play{nil, {}} {
		if x, e := Of(p); x != nil || e != api.ErrNil {
			t.Error(e)
		}
	}
	for _, x := range []*Trace{nil, {}} {
		_, e1 := x.First(sub(9), 1)
		_, e2 := x.Had(sub(9))
		_, e3 := x.Why(sub(9), 1)
		_, e4 := x.Check()
		for i, e := range []api.Errno{e1, e2, e3, e4} {
			if e != api.ErrNil {
				t.Error(i, e)
			}
		}
		by, m, made := x.Maker(1)
		if x.Len() != 0 || x.Where(1) != nil || made || by != (api.Node{}) || m != (api.Moment{}) {
			t.Error("something is there")
		}
		for c := range x.Comings() {
			t.Error(c)
		}
	}
}

func TestP21_1Of(t *testing.T) {
	p, x := chapter(t)
	n := 0
	for range x.Comings() {
		n++
	}
	q := p.Copy()
	if y := of(t, q); y.Len() != x.Len() {
		t.Error(y.Len())
	}
	begin, _ := p.Begin()
	if y := of(t, begin); y.Len() != 0 {
		t.Error(y.Len())
	}
	q.Rounds(9)
	m := 0
	for range x.Comings() {
		m++
	}
	if n != m || n != 6 {
		t.Error(n, m)
	}
}

func TestP21_2Comings(t *testing.T) {
	_, x := chapter(t)
	// The let of a name that stands for nothing is a turn without a deed.
	if x.Len() != 3 {
		t.Error(x.Len())
	}
	want := []api.Coming{came1(sub(0), c, at(0, 0)), came1(sub(0), l, at(0, 0)), came1(sub(1), g, at(0, 0)), came1(is(c), l, at(1, 0)), came1(sub(1), l, at(2, 0)), came1(sub(1), f, at(4, 0))}
	if got := slices.Collect(x.Comings()); !slices.Equal(got, want) {
		t.Error(got)
	}
	for range x.Comings() {
		break
	}
	w, _ := world.New()
	w.Make(api.What{Kind: api.Cell})
	w.Make(api.What{Kind: api.Log, Values: []api.Value{ref(1), list(ref(1), ref(1))}})
	w.Make(api.What{Kind: api.Clerk, Names: []api.Name{{Name: "b", Value: ref(2)}, {Name: "a", Value: list(ref(1), ref(2))}}})
	w.Lay(1, api.What{Kind: api.Cell, Value: ref(3)})
	y := of(t, play(t, w, subject1(t, w, "", "z", list(ref(3), ref(2), ref(3)), "a", api.Ref(1))))
	want = []api.Coming{came1(sub(0), 3, at(0, 0)), came1(sub(0), 2, at(0, 0)), came1(sub(0), 1, at(0, 0)), came1(is(1), 3, at(0, 0)), came1(is(2), 1, at(0, 0)), came1(is(3), 2, at(0, 0)), came1(is(3), 1, at(0, 0))}
	if got := slices.Collect(y.Comings()); !slices.Equal(got, want) {
		t.Error(got)
	}
}

// rows is a Play in which each row of the chapter's table comes about.
func rows(t *testing.T) *Trace {
	t.Helper()
	w, _ := world.New()
	for _, x := range []api.What{{Kind: api.Cell}, {Kind: api.Queue}, {Kind: api.Promise}, {Kind: api.Keeper, Of: 3}, {Kind: api.Sealer}, {Kind: api.Opener, Of: 5}, {Kind: api.Mint}, {Kind: api.Log}} {
		w.Make(x)
	}
	code := "x = give q [ c c ] ; y = take q 1 ; x = give k l ; z = get p ; b = ask s [ c l ] ; v = ask o b ; u = ask m 5 ; t = take u 2 ; n = make cell [ l c ] ; d = make clerk [ c v ] { reply [ it c ] } ; e = ask d b ; h i = make gate n ; j = make facet h get ; j = make facet j get ; a f = make tap h ; g r = make promise ; x = give l [ h l ] ; y = get l"
	p := play(t, w, subject1(t, w, code, "c", c, "q", l, "p", g, "k", f, "s", api.Ref(5), "o", api.Ref(6), "m", api.Ref(7), "l", api.Ref(8)))
	p.Rounds(99)
	if n := p.Len(); n != 18 {
		t.Fatal(p.Lines(0))
	}
	return of(t, p)
}

func TestP21_2Rows(t *testing.T) {
	x := rows(t)
	me := sub(0)
	want := []api.Coming{
		came1(is(2), 1, at(1, 0)), came1(me, 1, at(2, 0)), came1(is(3), 8, at(3, 0)), came1(me, 8, at(4, 0)),
		came1(is(9), 1, at(5, 0)), came1(is(9), 8, at(5, 0)), came1(me, 9, at(5, 0)), came1(me, 1, at(6, 0)), came1(me, 8, at(6, 0)),
		came1(me, 10, at(7, 0)), came1(me, 11, at(8, 0)), came1(is(12), 8, at(9, 0)), came1(is(12), 1, at(9, 0)), came1(me, 12, at(9, 0)),
		came1(is(13), 1, at(10, 0)), came1(is(13), 8, at(10, 0)), came1(me, 13, at(10, 0)), came1(is(13), 9, at(11, 0)), came1(me, 9, at(11, 1)), came1(me, 1, at(11, 1)),
		came1(me, 15, at(12, 0)), came1(me, 14, at(12, 0)), came1(me, 16, at(13, 0)), came1(me, 18, at(15, 0)), came1(me, 17, at(15, 0)), came1(me, 19, at(16, 0)), came1(me, 20, at(16, 0)),
		came1(is(8), 15, at(17, 0)), came1(is(8), 8, at(17, 0)), came1(me, 15, at(18, 0)), came1(me, 8, at(18, 0)),
	}
	if got := slices.Collect(x.Comings())[8:]; !slices.Equal(got, want) {
		t.Error(got)
	}
	if x.Len() != 19 {
		t.Error(x.Len())
	}
}

func TestP21_3Told(t *testing.T) {
	_, x := chapter(t)
	for _, p := range []struct {
		to api.Node
		r  api.Ref
		m  api.Moment
		e  api.Errno
	}{{sub(1), l, at(2, 0), 0}, {is(c), l, at(1, 0), 0}, {sub(0), l, at(0, 0), 0}, {sub(0), f, at(0, 0), api.ErrNever}, {is(g), l, at(0, 0), api.ErrNever}, {sub(0), 99, at(0, 0), api.ErrNever}, {sub(2), l, at(0, 0), api.ErrArg}, {sub(-1), l, at(0, 0), api.ErrArg}, {is(99), l, at(0, 0), api.ErrArg}, {is(0), l, at(0, 0), api.ErrArg},
		{api.Node{Who: 1, Ref: 1}, l, at(0, 0), api.ErrArg}, {api.Node{Is: true, Who: 1, Ref: 1}, l, at(0, 0), api.ErrArg}} {
		if m, e := x.First(p.to, p.r); m != p.m || e != p.e {
			t.Error(p, m, e)
		}
		if chain, e := x.Why(p.to, p.r); e != p.e || (e == api.OK) != (len(chain) > 0) {
			t.Error(p, chain, e)
		}
		if had, e := x.Had(p.to); p.e == api.ErrArg && (e != p.e || had != nil) {
			t.Error(p, had, e)
		}
	}
	if had, e := x.Had(sub(1)); e != api.OK || !slices.Equal(had, refs(g, l, f)) {
		t.Error(had, e)
	}
	if had, e := x.Had(is(g)); e != api.OK || len(had) != 0 {
		t.Error(had, e)
	}
	if l := x.Where(l); !slices.Equal(l, []api.Node{sub(0), is(c), sub(1)}) {
		t.Error(l)
	}
	if x.Where(99) != nil || x.Where(0) != nil {
		t.Error("nowhere")
	}
	y := rows(t)
	if had, _ := y.Had(is(13)); !slices.Equal(had, refs(1, 8, 9)) {
		t.Error(had)
	}
	if l := y.Where(1); !slices.Equal(l, []api.Node{sub(0), is(2), is(9), is(12), is(13)}) {
		t.Error(l)
	}
}

func why(t *testing.T, x *Trace, to api.Node, r api.Ref) []api.Coming {
	t.Helper()
	chain, e := x.Why(to, r)
	if e != api.OK {
		t.Fatal(to, r, e)
	}
	return chain
}

func TestP21_4Why(t *testing.T) {
	_, x := chapter(t)
	three := []api.Coming{came1(sub(0), l, at(0, 0)), came1(is(c), l, at(1, 0)), came1(sub(1), l, at(2, 0))}
	if got := why(t, x, sub(1), l); !slices.Equal(got, three) {
		t.Error(got)
	}
	if got := why(t, x, sub(1), f); !slices.Equal(got, append(three, came1(sub(1), f, at(4, 0)))) {
		t.Error(got)
	}
	if got := why(t, x, sub(0), c); !slices.Equal(got, []api.Coming{came1(sub(0), c, at(0, 0))}) {
		t.Error(got)
	}
	y := rows(t)
	gate := []api.Coming{came1(sub(0), 12, at(9, 0)), came1(sub(0), 15, at(12, 0))}
	if got := why(t, y, sub(0), 15); !slices.Equal(got, gate) {
		t.Error(got)
	}
	if got := why(t, y, sub(0), 16); !slices.Equal(got, append(gate, came1(sub(0), 16, at(13, 0)))) {
		t.Error(got)
	}
	if got := why(t, y, sub(0), 14); !slices.Equal(got, []api.Coming{came1(sub(0), 14, at(12, 0))}) {
		t.Error(got)
	}
	if got := why(t, y, is(13), 9); !slices.Equal(got, []api.Coming{came1(sub(0), 9, at(5, 0)), came1(is(13), 9, at(11, 0))}) {
		t.Error(got)
	}
}

func check(t *testing.T, x *Trace, at int, e api.Errno, l ...api.Coming) {
	t.Helper()
	if n, f := x.Check(l...); n != at || f != e {
		t.Error("got", n, f, "wanted", at, e)
	}
}

func TestP21_5Check(t *testing.T) {
	_, x := chapter(t)
	a, b, d := came1(sub(0), l, at(0, 0)), came1(is(c), l, at(1, 0)), came1(sub(1), l, at(2, 0))
	check(t, x, 3, api.OK, a, b, d)
	check(t, x, 1, api.ErrComing, a, d)
	check(t, x, 0, api.ErrComing, d)
	check(t, x, 0, api.ErrComing)
	check(t, x, 1, api.OK, a)
	check(t, x, 2, api.OK, a, b)
	check(t, x, 1, api.ErrComing, a, a)
	check(t, x, 1, api.ErrComing, a, came1(sub(0), l, at(1, 0)))
	check(t, x, 0, api.ErrComing, came1(sub(1), l, at(0, 0)), b)
	check(t, x, 1, api.ErrComing, came1(sub(0), c, at(0, 0)), b)
	check(t, x, 4, api.OK, a, b, d, came1(sub(1), f, at(4, 0)))
	check(t, x, 0, api.ErrComing, came1(sub(1), f, at(4, 0)))
	check(t, x, 1, api.ErrComing, came1(sub(1), g, at(0, 0)), came1(sub(1), f, at(4, 0)))
	y := rows(t)
	check(t, y, 1, api.OK, came1(sub(0), 14, at(12, 0)))
	check(t, y, 0, api.ErrComing, came1(sub(0), 15, at(12, 0)))
}

func TestP21_5LiesStill(t *testing.T) {
	w, _ := world.New()
	for _, x := range []api.What{{Kind: api.Cell}, {Kind: api.Log}, {Kind: api.Queue, Values: []api.Value{list(ref(2), ref(1)), ref(2)}}, {Kind: api.Log}} {
		w.Make(x)
	}
	p := play(t, w, subject1(t, w, "x = put c l ; x = put c 1 ; x = put c l ; y = get c ; x = give q l ; a = take q 1 ; b = take q 2 ; x = give m l ; x = give m l ; z = get m", "c", c, "l", l, "q", api.Ref(3), "m", api.Ref(4)))
	p.Rounds(99)
	x := of(t, p)
	me := sub(0)
	begin := came1(me, l, at(0, 0))
	check(t, x, 3, api.OK, begin, came1(is(c), l, at(3, 0)), came1(me, l, at(4, 0)))
	check(t, x, 2, api.ErrComing, begin, came1(is(c), l, at(1, 0)), came1(me, l, at(4, 0)))
	lay := came1(is(3), l, at(0, 0))
	check(t, x, 2, api.OK, lay, came1(me, l, at(6, 0)))
	check(t, x, 2, api.OK, lay, came1(me, l, at(7, 0)))
	check(t, x, 3, api.OK, begin, came1(is(3), l, at(5, 0)), came1(me, l, at(7, 0)))
	check(t, x, 2, api.ErrComing, begin, came1(is(3), l, at(5, 0)), came1(me, l, at(6, 0)))
	check(t, x, 3, api.OK, begin, came1(is(4), l, at(8, 0)), came1(me, l, at(10, 0)))
	check(t, x, 3, api.OK, begin, came1(is(4), l, at(9, 0)), came1(me, l, at(10, 0)))
	if i := x.known[came1(me, l, at(7, 0))]; x.comings[x.comings[i].behind].Coming != lay {
		t.Error("of a queue the first value that it took")
	}
	if i := x.known[came1(me, l, at(4, 0))]; x.comings[x.comings[i].behind].Coming != came1(is(c), l, at(3, 0)) {
		t.Error("of a cell the last coming")
	}
	if i := x.known[came1(me, l, at(10, 0))]; x.comings[x.comings[i].behind].Coming != came1(is(4), l, at(8, 0)) {
		t.Error("of others the first coming")
	}
}

func TestP21_6Maker(t *testing.T) {
	_, x := chapter(t)
	for _, p := range []struct {
		r    api.Ref
		by   api.Node
		m    api.Moment
		made bool
	}{{f, sub(1), at(4, 0), true}, {l, api.Node{}, at(0, 0), false}, {g, api.Node{}, at(0, 0), false}, {99, api.Node{}, at(0, 0), false}} {
		if by, m, made := x.Maker(p.r); by != p.by || m != p.m || made != p.made {
			t.Error(p, by, m, made)
		}
	}
	y := rows(t)
	for r, m := range map[api.Ref]api.Moment{9: at(5, 0), 10: at(7, 0), 11: at(8, 0), 12: at(9, 0), 13: at(10, 0), 14: at(12, 0), 15: at(12, 0), 16: at(13, 0), 20: at(16, 0)} {
		if by, n, made := y.Maker(r); by != sub(0) || n != m || !made {
			t.Error(r, by, n, made)
		}
	}
	w, _ := world.New()
	w.Make(api.What{Kind: api.Cell})
	p := play(t, w, subject1(t, w, "k = make clerk [ c ] { l = make log ; f = make facet c get ; reply f } ; f = ask k 1 ; g = make facet f get ; g = make facet c get", "c", c))
	p.Rounds(9)
	z := of(t, p)
	if by, m, made := z.Maker(3); by != is(2) || m != at(2, 1) || !made {
		t.Error(by, m, made)
	}
	if by, m, made := z.Maker(4); by != is(2) || m != at(2, 2) || !made {
		t.Error(by, m, made)
	}
}

// random makes a Play of subjects and clerks that hand things on.
func random(t *testing.T, r *rand.Rand) *pick.Play {
	t.Helper()
	w, _ := world.New(0, 0)
	for _, x := range []api.What{{Kind: api.Cell}, {Kind: api.Queue}, {Kind: api.Promise}, {Kind: api.Keeper, Of: 3}, {Kind: api.Log}, {Kind: api.Sealer}, {Kind: api.Opener, Of: 6}, {Kind: api.Cell, Value: list(ref(1), ref(5))}} {
		w.Make(x)
	}
	w.Facet(1, api.Get)
	texts := []string{"x = get a", "x = put a b", "x = put a [ x b ]", "x = give a x", "y = take a 1", "z = part y 0", "z = part x 0", "x = give k b", "v = get p", "l = make log", "x = give l b", "b = get l", "g h = make gate a", "f = make facet b get", "x = ask s b", "x = ask o x", "s o = make seal", "m = make mint", "a = ask m 5", "b = take a 2", "n = make cell [ a b ]",
		"d = make clerk [ a b ] { x = get a ; y = put b it ; reply [ x it b ] }", "x = ask d x", "d = make clerk [ a b d ] { x = ask d a ; y = make cell x ; reply [ y x ] }", "t u = make tap a", "x = get t", "if can a put { x = put a b } else { b = a }"}
	var l []api.Subject
	for range 3 {
		var c []string
		for range 14 {
			c = append(c, texts[r.Intn(len(texts))])
		}
		some := func() api.Ref { return api.Ref(1 + r.Intn(9)) }
		l = append(l, subject1(t, w, strings.Join(c, " ; "), "a", some(), "b", some(), "p", g, "k", f, "s", api.Ref(6), "o", api.Ref(7)))
	}
	return play(t, w, l...)
}

func TestP21_7NothingFromNothing(t *testing.T) {
	r := rand.New(rand.NewSource(1))
	for range 60 {
		p := random(t, r)
		for range 40 {
			p.Turn(api.Turn{Who: r.Intn(3)})
		}
		x := of(t, p)
		for who, s := range p.Subjects() {
			for _, n := range s.Names {
				for _, q := range value.Refs(n.Value) {
					chain := why(t, x, sub(who), q)
					check(t, x, len(chain), api.OK, chain...)
					if last := chain[len(chain)-1]; last.To != sub(who) || last.Ref != q {
						t.Error(chain)
					}
				}
			}
		}
		w := p.World()
		for q, kind := range w.Things() {
			y, _ := w.What(q)
			held := value.Refs(y.Value)
			for _, v := range y.Values {
				held = append(held, value.Refs(v)...)
			}
			for _, n := range y.Names {
				held = append(held, value.Refs(n.Value)...)
			}
			for _, z := range held {
				chain := why(t, x, is(q), z)
				check(t, x, len(chain), api.OK, chain...)
			}
			by, m, made := x.Maker(q)
			if begin, _ := p.Begin(); made == begin.World().Is(q) || made && m == at(0, 0) || !made && by != (api.Node{}) {
				t.Error(q, kind, by, m, made)
			}
		}
	}
}

func TestP21_8Chains(t *testing.T) {
	r := rand.New(rand.NewSource(2))
	for range 40 {
		p := random(t, r)
		p.Rounds(40)
		x := of(t, p)
		w := p.World()
		for q := range x.Comings() {
			chain := why(t, x, q.To, q.Ref)
			met := map[arrival]int{}
			for i, c := range chain {
				check(t, x, i+1, api.OK, chain[:i+1]...)
				if i > 0 {
					check(t, x, 0, api.ErrComing, chain[i:]...)
				}
				holder := !c.To.Is || w.Kind(c.To.Ref) == api.Clerk
				if met[arrival{c.To, c.Ref}]++; holder && met[arrival{c.To, c.Ref}] > 1 {
					t.Error("twice to one holder", chain)
				}
			}
			for i := 1; i+1 < len(chain); i++ {
				short := slices.Delete(slices.Clone(chain), i, i+1)
				if n, e := x.Check(short...); e == api.OK && (n != len(short) || !slices.Contains(slices.Collect(x.Comings()), short[i])) {
					t.Error(short)
				}
			}
		}
	}
}

func TestP21_9GoesOn(t *testing.T) {
	r := rand.New(rand.NewSource(3))
	for range 30 {
		p := random(t, r)
		p.Rounds(15)
		x := of(t, p)
		p.Rounds(20)
		y := of(t, p)
		a, b := slices.Collect(x.Comings()), slices.Collect(y.Comings())
		if len(b) < len(a) || !slices.Equal(a, b[:len(a)]) {
			t.Error("another beginning")
		}
		for _, c := range a {
			m, _ := x.First(c.To, c.Ref)
			n, _ := y.First(c.To, c.Ref)
			if m != n || !reflect.DeepEqual(why(t, x, c.To, c.Ref), why(t, y, c.To, c.Ref)) {
				t.Error(c)
			}
		}
	}
}
