package bound

import (
	"math/rand"
	"reflect"
	"slices"
	"strings"
	"testing"

	"postern/api"
	"postern/code"
	"postern/lang"
	"postern/pick"
	"postern/run"
	"postern/trace"
	"postern/value"
	"postern/world"
)

func ref(r api.Ref) api.Value       { return api.Value{Kind: api.Reference, R: r} }
func list(l ...api.Value) api.Value { return api.Value{Kind: api.List, L: l} }
func sub(n int) api.Holder          { return api.Holder{Subject: n} }
func clerkH(r api.Ref) api.Holder   { return api.Holder{Clerk: r} }
func is(r api.Ref) api.Spot         { return api.Spot{Kind: api.SpotThing, Ref: r} }
func madeBy(u api.Holder) api.Spot  { return api.Spot{Kind: api.SpotMade, Of: u} }
func box(s api.Ref, u api.Holder) api.Spot {
	return api.Spot{Kind: api.SpotBox, Ref: s, Of: u}
}
func purse(m api.Ref) api.Spot { return api.Spot{Kind: api.SpotPurse, Ref: m} }
func holds(u api.Holder, y api.Spot, a api.Able) api.Fact {
	return api.Fact{By: u, What: y, Can: a}
}
func lies(x, y api.Spot, a api.Able) api.Fact { return api.Fact{In: x, What: y, Can: a} }

func read(t *testing.T, s string) []api.Stmt {
	t.Helper()
	c, at, e := lang.Read(s)
	if e != api.OK {
		t.Fatal(s, at, e)
	}
	return c
}

// names makes names of pairs.
func names(l ...any) []api.Name {
	var out []api.Name
	for i := 0; i < len(l); i += 2 {
		v, ok := l[i+1].(api.Value)
		if !ok {
			v = ref(l[i+1].(api.Ref))
		}
		out = append(out, api.Name{Name: l[i].(string), Value: v})
	}
	return out
}

func who(t *testing.T, w *world.World, side api.Side, s string, l ...any) api.Subject {
	t.Helper()
	x, e := run.New(w, side, read(t, s), names(l...))
	if e != api.OK {
		t.Fatal(s, e)
	}
	return x
}

func bound(t *testing.T, w *world.World, l ...api.Subject) *Facts {
	t.Helper()
	f, e := Bound(w, l...)
	if e != api.OK {
		t.Fatal(e)
	}
	return f
}

func of(t *testing.T, w *world.World, l ...api.Subject) *Facts {
	t.Helper()
	f, e := Of(w, l...)
	if e != api.OK {
		t.Fatal(e)
	}
	return f
}

func says(t *testing.T, f *Facts, u api.Holder, a api.Able, x api.Ref, want bool) {
	t.Helper()
	if got, e := f.Says(u, a, x); got != want || e != api.OK {
		t.Error("says", u, a, x, got, e)
	}
}

const (
	c = api.Ref(1)
	l = api.Ref(2)
	g = api.Ref(3)
)

// chapter is the world of the chapter's examples: a cell, a log, a facet of the cell for get.
func chapter(t *testing.T) (w *world.World, zero, one api.Subject) {
	t.Helper()
	w, _ = world.New()
	w.Make(api.What{Kind: api.Cell})
	w.Make(api.What{Kind: api.Log})
	w.Facet(c, api.Get)
	return w, who(t, w, 0, "", "c", c, "l", l), who(t, w, 0, "", "g", g)
}

func TestNilFacts(t *testing.T) {
	for _, w := range []*world.World{nil, {}} {
		_, e1 := Empty(w, make([]api.Subject, 40)...)
		_, e2 := Of(w, make([]api.Subject, 40)...)
		_, e3 := Bound(w, make([]api.Subject, 40)...)
		if e1 != api.ErrNil || e2 != api.ErrNil || e3 != api.ErrNil {
			t.Error(e1, e2, e3)
		}
	}
	w, a, b := chapter(t)
	there := of(t, w, a, b)
	for _, f := range []*Facts{nil, {}} {
		_, e1 := f.Says(sub(9), 0, 0)
		_, e2 := f.Why(api.Fact{})
		_, e3 := f.Follows(api.Link{})
		if e1 != api.ErrNil || e2 != api.ErrNil || e3 != api.ErrNil || f.Add(api.Fact{}) != api.ErrNil {
			t.Error(e1, e2, e3)
		}
		set, can := f.Can(sub(0), is(1))
		miss, rule, kept := f.Kept()
		want, has := f.World()
		if f.Copy() != nil || f.Holders() != nil || f.Spots() != nil || f.Len() != 0 || f.Has(holds(sub(0), is(1), 0)) || set != 0 || can || f.Close() != 0 || kept || rule != 0 || miss != (api.Fact{}) || has || want != (api.Fact{}) || f.Lossless() || Less(f, there) || Less(there, f) || Less(f, f) {
			t.Error("something is there")
		}
		for x := range f.Each() {
			t.Error(x)
		}
	}
}

func TestP23_1Of(t *testing.T) {
	w, a, b := chapter(t)
	bad := a
	bad.Side = 5
	for _, make := range []func(*world.World, ...api.Subject) (*Facts, api.Errno){Empty, Of, Bound} {
		if f, e := make(w, a, bad); f != nil || e != api.ErrArg {
			t.Error(e)
		}
		if f, e := make(w, slices.Repeat([]api.Subject{a}, 33)...); f != nil || e != api.ErrArg {
			t.Error(e)
		}
		if f, e := make(w, slices.Repeat([]api.Subject{a}, 32)...); f == nil || e != api.OK {
			t.Error(e)
		}
	}
	f := of(t, w, a, b)
	if f.Len() != 8 || !f.Has(holds(sub(0), is(c), api.Get)) || !f.Has(holds(sub(0), is(c), 0)) || f.Has(holds(sub(1), is(c), api.Put)) || f.Has(holds(sub(1), is(l), 0)) {
		t.Error(f.Len())
	}
	if x, _ := Empty(w, a, b); x.Len() != 0 {
		t.Error(x.Len())
	}
	d := f.Copy()
	d.Add(holds(sub(1), is(l), 0))
	if f.Has(holds(sub(1), is(l), 0)) || !d.Has(holds(sub(1), is(l), 0)) || d.Len() != 9 || f.Len() != 8 {
		t.Error("the copy shares")
	}
	d.Close()
	if n := f.Len(); n != 8 {
		t.Error(n)
	}
	w.Make(api.What{Kind: api.Cell})
	if len(f.Spots()) != 4 {
		t.Error("what becomes of the world is seen", f.Spots())
	}
}

func TestP23_1Many(t *testing.T) {
	w, _ := world.New(0, 0)
	// Rows: a holder, and cells, and made of it; marks: cells, and made of it: (n + 2) * (n + 1) pairs.
	for i := range 510 {
		w.Make(api.What{Kind: api.Cell, Home: api.Side(i % 2)})
	}
	s, _ := run.New(w, 0, nil, nil)
	if _, e := Bound(w, s); e != api.OK {
		t.Error(e)
	}
	w.Make(api.What{Kind: api.Cell})
	if f, e := Empty(w, s); f != nil || e != api.ErrMany {
		t.Error(e)
	}
	bad := s
	bad.Side = 9
	if _, e := Empty(w, bad); e != api.ErrArg {
		t.Error(e)
	}
	if _, e := Of(w); e != api.OK {
		t.Error(e)
	}
	w.Drop(1)
	for range 400 {
		w.Make(api.What{Kind: api.Mint})
	}
	if _, e := Of(w, s); e != api.ErrMany {
		t.Error(e)
	}
}

func TestP23_2Told(t *testing.T) {
	w, _ := world.New()
	for _, x := range []api.What{{Kind: api.Cell}, {Kind: api.Mint}, {Kind: api.Sealer}, {Kind: api.Clerk, Names: names("a", c)}, {Kind: api.Log, Values: []api.Value{ref(4)}}, {Kind: api.Clerk}} {
		w.Make(x)
	}
	w.Facet(1, api.Get)
	f := of(t, w, who(t, w, 0, "", "l", api.Ref(5), "f", api.Ref(7)), who(t, w, 0, ""))
	h := []api.Holder{sub(0), sub(1), clerkH(4), clerkH(6)}
	if !slices.Equal(f.Holders(), h) {
		t.Error(f.Holders())
	}
	spots := []api.Spot{is(1), is(2), is(3), is(4), is(5), is(6), madeBy(h[0]), madeBy(h[1]), madeBy(h[2]), madeBy(h[3]), box(3, h[0]), box(3, h[1]), box(3, h[2]), box(3, h[3]), purse(2)}
	if !slices.Equal(f.Spots(), spots) {
		t.Error(f.Spots())
	}
	f.Holders()[0], f.Spots()[0] = h[1], is(9)
	if f.Holders()[0] != h[0] || f.Spots()[0] != is(1) {
		t.Error("shared")
	}
	want := []api.Fact{holds(h[0], is(1), 0), holds(h[0], is(1), api.Get), holds(h[0], is(5), 0), holds(h[0], is(5), api.Get), holds(h[0], is(5), api.Give), holds(h[2], is(1), 0), holds(h[2], is(1), api.Get), holds(h[2], is(1), api.Put), lies(is(5), is(4), 0), lies(is(5), is(4), api.Ask)}
	if got := slices.Collect(f.Each()); !slices.Equal(got, want) || f.Len() != len(want) {
		t.Error(got)
	}
	all := f.Each()
	f.Add(lies(box(3, h[3]), madeBy(h[1]), api.Cut))
	f.Add(lies(is(1), purse(2), 0))
	f.Add(holds(h[1], box(3, h[0]), 0))
	want = slices.Insert(want, 5, holds(h[1], box(3, h[0]), 0))
	want = slices.Insert(want, 9, lies(is(1), purse(2), 0))
	want = append(want, lies(box(3, h[3]), madeBy(h[1]), 0), lies(box(3, h[3]), madeBy(h[1]), api.Cut))
	n := 0
	for x := range all {
		if x != want[n] || !f.Has(x) {
			t.Error(n, x, want[n])
		}
		n++
		f.Add(holds(h[3], purse(2), api.Take))
	}
	if n != len(want) {
		t.Error(n)
	}
	for range all {
		break
	}
	if set, can := f.Can(h[0], is(5)); set != api.Get|api.Give || !can {
		t.Error(set, can)
	}
	if set, can := f.Can(h[1], box(3, h[0])); set != 0 || !can {
		t.Error(set, can)
	}
	for _, x := range []struct {
		u api.Holder
		y api.Spot
	}{{h[1], is(1)}, {sub(2), is(1)}, {h[0], is(7)}, {h[0], api.Spot{}}, {api.Holder{Subject: 1, Clerk: 4}, is(1)}} {
		if set, can := f.Can(x.u, x.y); set != 0 || can {
			t.Error(x, set, can)
		}
	}
}

func TestP23_3Says(t *testing.T) {
	w, a, b := chapter(t)
	f := bound(t, w, a, b)
	says(t, f, sub(1), api.Give, l, true)
	says(t, f, sub(1), api.Put, c, true)
	says(t, f, sub(1), api.Put, g, true)
	says(t, of(t, w, a, b), sub(1), api.Put, c, false)
	says(t, of(t, w, a, b), sub(1), api.Get, g, true)
	for i, p := range []struct {
		u api.Holder
		a api.Able
		x api.Ref
	}{{sub(2), api.Get, c}, {sub(-1), api.Get, c}, {sub(0), 3, c}, {sub(0), 0, c}, {sub(0), 64, c}, {sub(0), api.Get, 99}, {sub(0), api.Get, 0}, {clerkH(1), api.Get, c}} {
		if got, e := f.Says(p.u, p.a, p.x); got || e != api.ErrArg {
			t.Error(i, got, e)
		}
	}
	put := who(t, w, 0, "", "l", l)
	f = bound(t, w, put, b)
	says(t, f, sub(1), api.Get, l, false)
	v, _ := world.New(0, 0)
	v.Make(api.What{Kind: api.Cell, Home: 1})
	v.Make(api.What{Kind: api.Switch, Home: 2})
	v.Make(api.What{Kind: api.Gate, Home: 2, Of: 1, By: 2})
	s := who(t, v, 0, "", "c", c, "g", g)
	says(t, of(t, v, s), sub(0), api.Get, c, true)
	says(t, of(t, v, s), sub(0), api.Get, g, true)
	says(t, of(t, v, who(t, v, 0, "", "c", c)), sub(0), api.Get, g, false)
	v.CutEdge(1)
	says(t, of(t, v, s), sub(0), api.Get, c, false)
	says(t, of(t, v, s), sub(0), api.Get, g, false)
	if f := of(t, v, s); !f.Has(holds(sub(0), is(c), api.Get)) {
		t.Error("held all the same")
	}
}

func TestP23_4Add(t *testing.T) {
	w, a, b := chapter(t)
	f, _ := Empty(w, a, b)
	for i, x := range []api.Fact{{}, holds(sub(2), is(c), 0), holds(sub(0), is(g), 0), holds(sub(0), is(9), 0), holds(sub(0), api.Spot{}, 0), holds(sub(0), is(c), 3), holds(sub(0), is(c), 64), lies(is(9), is(c), 0), lies(is(g), is(c), 0), {By: sub(1), In: is(c), What: is(l)},
		holds(sub(0), api.Spot{Kind: api.SpotThing, Ref: 1, Of: sub(1)}, 0), holds(sub(0), api.Spot{Kind: api.SpotMade, Ref: 1}, 0), holds(sub(0), madeBy(sub(2)), 0), holds(sub(0), purse(1), 0), holds(sub(0), box(1, sub(0)), 0), lies(api.Spot{Ref: 1}, is(c), 0), {By: api.Holder{Subject: 1, Clerk: 1}, What: is(c)}} {
		if e := f.Add(x); e != api.ErrArg || f.Has(x) || f.Len() != 0 {
			t.Error(i, e)
		}
		if l, e := f.Why(x); l != nil || e != api.ErrArg {
			t.Error(i, e)
		}
	}
	for i, x := range []api.Fact{holds(sub(1), is(c), api.Cut), lies(is(c), madeBy(sub(1)), 0), lies(madeBy(sub(0)), is(l), api.Ask)} {
		if e := f.Add(x); e != api.OK || !f.Has(x) || !f.Has(api.Fact{By: x.By, In: x.In, What: x.What}) {
			t.Error(i, e)
		}
	}
	if f.Len() != 5 {
		t.Error(f.Len())
	}
	m, _ := w.Make(api.What{Kind: api.Mint})
	s, _ := w.Make(api.What{Kind: api.Sealer})
	k, _ := w.Make(api.What{Kind: api.Keeper, Of: func() api.Ref { p, _ := w.Make(api.What{Kind: api.Promise}); return p }()})
	f, _ = Empty(w, a)
	for _, x := range []api.Fact{holds(sub(0), purse(m), api.Take), holds(sub(0), box(s, sub(0)), 0), lies(box(s, sub(0)), is(k), api.Give), lies(is(k-1), is(m), 0)} {
		if e := f.Add(x); e != api.OK || !f.Has(x) {
			t.Error(x, e)
		}
	}
	for _, x := range []api.Fact{lies(is(k), is(m), 0), lies(is(m), is(m), 0), lies(is(s), is(m), 0), lies(purse(m), is(m), 0)} {
		if e := f.Add(x); e != api.ErrArg {
			t.Error(x, e)
		}
	}
}

func TestP23_4CloseKept(t *testing.T) {
	w, a, b := chapter(t)
	f := of(t, w, a, b)
	miss, rule, kept := f.Kept()
	if kept || rule != 4 || miss != holds(sub(0), madeBy(sub(0)), 0) {
		t.Error(miss, rule, kept)
	}
	// 14 of what each makes; 3 more marks (the log, both made) come by the cell, with all that they can, to both.
	n := f.Len()
	got := f.Close()
	if f.Len() != n+got || got == 0 || f.Close() != 0 {
		t.Error(got)
	}
	if miss, rule, kept := f.Kept(); !kept || rule != 0 || miss != (api.Fact{}) {
		t.Error(miss, rule, kept)
	}
	x := of(t, w, a, b)
	for _, u := range []api.Holder{sub(0), sub(1)} {
		for _, can := range []api.Able{1, 2, 4, 8, 16, 32} {
			x.Add(holds(u, madeBy(u), can))
		}
	}
	// The least that is wanting comes by the log, by what 0 makes, or by the cell: rule 1 ahead of rule 4.
	if miss, rule, kept := x.Kept(); kept || miss != lies(is(c), is(c), 0) || rule != 1 {
		t.Error(miss, rule, kept)
	}
	if miss, has := x.World(); !has || miss != (api.Fact{}) {
		t.Error(miss, has)
	}
	e, _ := Empty(w, a, b)
	e.Add(holds(sub(0), is(c), 0))
	if miss, has := e.World(); has || miss != holds(sub(0), is(c), api.Get) {
		t.Error(miss, has)
	}
}

func TestP23_5Lossless(t *testing.T) {
	w, a, b := chapter(t)
	if !of(t, w, a, b).Lossless() {
		t.Error("an empty cell")
	}
	w.Lay(c, api.What{Kind: api.Cell, Value: ref(l)})
	if of(t, w, a, b).Lossless() {
		t.Error("a cell that is put to")
	}
	if !of(t, w, b).Lossless() {
		t.Error("nobody puts")
	}
	x, _ := Empty(w, a, b)
	if x.Lossless() {
		t.Error("THE BOUND counts, not this set")
	}
	build := func(l ...api.What) *world.World {
		w, _ := world.New()
		for _, x := range l {
			w.Make(x)
		}
		return w
	}
	for i, p := range []struct {
		l    []api.What
		hold api.Ref
		want bool
	}{{[]api.What{{Kind: api.Log}, {Kind: api.Queue, Values: []api.Value{ref(1)}}}, 2, false}, {[]api.What{{Kind: api.Log}, {Kind: api.Queue, Values: []api.Value{ref(1)}}}, 1, true}, {[]api.What{{Kind: api.Log, Values: []api.Value{ref(1)}}}[:0], 0, true}, {[]api.What{{Kind: api.Log}, {Kind: api.Queue}}, 2, true},
		{[]api.What{{Kind: api.Promise}, {Kind: api.Keeper, Of: 1}}, 2, false}, {[]api.What{{Kind: api.Promise}, {Kind: api.Keeper, Of: 1}}, 1, true}, {[]api.What{{Kind: api.Promise, Full: true}, {Kind: api.Keeper, Of: 1}}, 2, true}, {[]api.What{{Kind: api.Clerk}}, 0, false}} {
		w := build(p.l...)
		s := who(t, w, 0, "")
		if p.hold != 0 {
			s = who(t, w, 0, "", "x", p.hold)
		}
		if got := of(t, w, s).Lossless(); got != p.want {
			t.Error(i, got)
		}
	}
}

func TestP23_6Why(t *testing.T) {
	w, a, b := chapter(t)
	a = who(t, w, 0, "", "c", func() api.Ref { r, _ := w.Facet(c, api.Put); return r }(), "l", l)
	f, _ := Empty(w, a, b)
	links, e := f.Why(holds(sub(1), is(l), api.Give))
	want := []api.Link{{Fact: holds(sub(0), is(c), api.Put)}, {Fact: holds(sub(0), is(l), api.Give)}, {Fact: holds(sub(1), is(c), api.Get)}, {Fact: lies(is(c), is(l), api.Give), Rule: 1, From: []int{0, 1}}, {Fact: holds(sub(1), is(l), api.Give), Rule: 1, From: []int{2, 3}}}
	if !reflect.DeepEqual(links, want) {
		t.Error(links)
	}
	if e != api.OK || len(links) != 5 || links[4].Fact != holds(sub(1), is(l), api.Give) || links[4].Rule != 1 || len(links[4].From) != 2 {
		t.Fatal(links, e)
	}
	if n, e := f.Follows(links...); n != 5 || e != api.OK {
		t.Error(n, e)
	}
	if l, e := f.Why(holds(sub(0), is(c), api.Cut)); l != nil || e != api.ErrFact {
		t.Error(l, e)
	}
	good := []api.Link{{Fact: holds(sub(0), is(c), api.Put)}, {Fact: holds(sub(0), is(l), api.Give)}, {Fact: holds(sub(1), is(c), api.Get)}, {Fact: lies(is(c), is(l), api.Give), Rule: 1, From: []int{0, 1}}, {Fact: holds(sub(1), is(l), api.Give), Rule: 1, From: []int{2, 3}}, {Fact: holds(sub(1), is(l), 0), From: []int{4}},
		{Fact: holds(sub(0), madeBy(sub(0)), api.Cut), Rule: 4}, {Fact: holds(sub(0), madeBy(sub(0)), 0), Rule: 4}, {Fact: lies(madeBy(sub(0)), is(l), api.Give), Rule: 4, From: []int{7, 1}}, {Fact: holds(sub(0), is(l), api.Give), Rule: 4, From: []int{7, 8}}}
	if n, e := f.Follows(good...); n != len(good) || e != api.OK {
		t.Error(n, e)
	}
	if n, e := f.Follows(); n != 0 || e != api.OK {
		t.Error(n, e)
	}
	for i, p := range []struct {
		at   int
		turn func(l []api.Link)
	}{{0, func(l []api.Link) { l[0].Fact.Can = api.Get }}, {0, func(l []api.Link) { l[0].Rule = 1 }}, {0, func(l []api.Link) { l[0].From = []int{0} }}, {1, func(l []api.Link) { l[1].From = []int{0} }}, {3, func(l []api.Link) { l[3].From = []int{1, 0} }}, {3, func(l []api.Link) { l[3].From = []int{0} }}, {3, func(l []api.Link) { l[3].From = []int{0, 1, 1} }}, {3, func(l []api.Link) { l[3].From = []int{0, 4} }},
		{3, func(l []api.Link) { l[3].From = []int{0, -1} }}, {3, func(l []api.Link) { l[3].Rule = 4 }}, {3, func(l []api.Link) { l[3].Rule = 0 }}, {3, func(l []api.Link) { l[3].Rule = 6 }}, {3, func(l []api.Link) { l[3].Rule = -1 }}, {3, func(l []api.Link) { l[3].Fact.Can = 0 }}, {4, func(l []api.Link) { l[4].From = []int{0, 3} }}, {4, func(l []api.Link) { l[4].Fact.By = sub(0) }},
		{5, func(l []api.Link) { l[5].Rule = 1 }}, {5, func(l []api.Link) { l[5].From = []int{3} }}, {5, func(l []api.Link) { l[5].Fact.Can = api.Give }}, {6, func(l []api.Link) { l[6].Fact.What = madeBy(sub(1)) }}, {8, func(l []api.Link) { l[8].From = []int{6, 1} }}, {9, func(l []api.Link) { l[9].Fact.By = sub(1) }}, {2, func(l []api.Link) { l[2].Fact.By = sub(7) }}} {
		l := slices.Clone(good)
		p.turn(l)
		if n, e := f.Follows(l...); n != p.at || e != api.ErrLink {
			t.Error(i, n, e)
		}
	}
}

// pairs is a world with sealers, mints, keepers and clerks; the things' numbers are told beside.
func pairs(t *testing.T) *world.World {
	t.Helper()
	w, _ := world.New()
	for _, x := range []api.What{{Kind: api.Sealer}, {Kind: api.Opener, Of: 1}, {Kind: api.Log}, {Kind: api.Cell}, {Kind: api.Mint}, {Kind: api.Purse, Of: 5}, {Kind: api.Promise}, {Kind: api.Keeper, Of: 7}, {Kind: api.Box, Of: 1, Value: ref(6)}, {Kind: api.Clerk, Code: read(t, "reply c"), Names: names("c", api.Ref(6))}, {Kind: api.Clerk, Code: read(t, "x = get c"), Names: names("c", api.Ref(4))}} {
		if _, e := w.Make(x); e != api.OK {
			t.Fatal(x, e)
		}
	}
	return w
}

func TestRules(t *testing.T) {
	w := pairs(t)
	has := func(f *Facts, x api.Fact, want bool) {
		t.Helper()
		if f.Has(x) != want {
			t.Error(x, !want)
		}
		if !want {
			return
		}
		l, e := f.Why(x)
		if n, g := f.Follows(l...); e != api.OK || g != api.OK || n != len(l) || l[n-1].Fact != x {
			t.Error(x, l, e, n, g)
		}
		for i := range l {
			for j := range i {
				if l[i].Fact == l[j].Fact {
					t.Error("a fact twice", l[i])
				}
			}
		}
	}
	// Rule 2: a box of 0's comes to 1 by the cell.
	f := bound(t, w, who(t, w, 0, "", "s", api.Ref(1), "l", api.Ref(3), "c", api.Ref(4)), who(t, w, 0, "", "o", api.Ref(2), "c", api.Ref(4)))
	has(f, holds(sub(0), box(1, sub(0)), 0), true)
	has(f, lies(box(1, sub(0)), is(3), api.Give), true)
	has(f, holds(sub(1), is(3), api.Give), true)
	has(f, holds(sub(0), box(1, sub(1)), 0), true)
	has(f, holds(sub(1), is(6), api.Get), false)
	says(t, f, sub(1), api.Give, 3, true)
	g := bound(t, w, who(t, w, 0, "", "s", api.Ref(1), "l", api.Ref(3)), who(t, w, 0, "", "o", api.Ref(2), "b", api.Ref(9)))
	has(g, holds(sub(1), is(6), api.Take), true)
	has(g, holds(sub(1), box(1, sub(0)), 0), false)
	has(g, holds(sub(1), is(3), 0), false)
	has(g, lies(box(1, sub(0)), is(3), api.Get), true)
	// Rule 3.
	f = bound(t, w, who(t, w, 0, "", "m", api.Ref(5)), who(t, w, 0, "", "p", api.Ref(6)), who(t, w, 0, "", "c", api.Ref(4)))
	for _, can := range []api.Able{0, api.Get, api.Take, api.Give} {
		has(f, holds(sub(0), purse(5), can), true)
		has(f, holds(sub(1), purse(5), can), true)
		has(f, holds(sub(2), purse(5), can), false)
	}
	has(f, holds(sub(0), purse(5), api.Put), false)
	// Rule 1, a keeper; a promise that was kept takes nothing.
	f = bound(t, w, who(t, w, 0, "", "k", api.Ref(8), "l", api.Ref(3)), who(t, w, 0, "", "p", api.Ref(7)))
	has(f, lies(is(7), is(3), api.Get), true)
	has(f, holds(sub(1), is(3), api.Give), true)
	v := w.Copy()
	v.Lay(7, api.What{Kind: api.Promise, Full: true})
	f = bound(t, v, who(t, v, 0, "", "k", api.Ref(8), "l", api.Ref(3)), who(t, v, 0, "", "p", api.Ref(7)))
	has(f, lies(is(7), is(3), api.Get), false)
	// Rules 5 and 6: the clerk 10 replies a name, 11 acts by get alone.
	f = bound(t, w, who(t, w, 0, "", "k", api.Ref(10), "l", api.Ref(3)), who(t, w, 0, "", "k", api.Ref(11), "m", api.Ref(5)))
	has(f, holds(clerkH(10), is(3), api.Give), true)
	has(f, holds(sub(0), is(6), api.Take), true)
	has(f, holds(clerkH(11), is(5), api.Ask), true)
	has(f, holds(clerkH(11), madeBy(clerkH(11)), 0), false)
	has(f, holds(clerkH(10), madeBy(clerkH(10)), 0), false)
	has(f, lies(madeBy(sub(1)), is(5), api.Ask), true)
	// By what 1 made, which it is asked with, 11 hands on what it has, as it acts at all.
	has(f, holds(sub(1), is(4), api.Put), true)
	u := w.Copy()
	silent, _ := u.What(11)
	silent.Code = read(t, "reply 1")
	u.Lay(11, silent)
	f = bound(t, u, who(t, u, 0, "", "k", api.Ref(11), "m", api.Ref(5)))
	has(f, holds(clerkH(11), is(5), api.Ask), true)
	has(f, holds(sub(0), is(4), api.Put), false)
	has(f, holds(clerkH(11), purse(5), 0), true)
	has(f, lies(is(4), is(5), 0), false)
	// Rule 6: a clerk that takes has what is made for it; one whose code may not be does nothing.
	x, _ := v.What(11)
	for text, made := range map[string]bool{"x = take c 1": true, "x = ask c 1": true, "x = make log": true, "x = await c": false, "x = put c 1": false, "k = make clerk [ ] { x = ask c 1 }": true, "if same 1 1 { } else { x = ask c 1 }": true, "reply c": false} {
		x.Code = read(t, text)
		v.Lay(11, x)
		has(bound(t, v), holds(clerkH(11), madeBy(clerkH(11)), api.Cut), made)
	}
	x.Code = append(read(t, "x = ask c 1"), api.Stmt{Op: api.Let})
	v.Lay(11, x)
	has(bound(t, v), holds(clerkH(11), madeBy(clerkH(11)), 0), false)
	x.Code, x.Names = read(t, "x = ask c 1"), append(x.Names, x.Names...)
	v.Lay(11, x)
	has(bound(t, v), holds(clerkH(11), madeBy(clerkH(11)), 0), false)
	has(bound(t, v), holds(clerkH(11), is(4), api.Put), true)
}

// slow brings all about by going over the rules as DOC.md has them, over and over.
type slow struct {
	w     *world.World
	l     []api.Subject
	h     []api.Holder
	spots []api.Spot
	set   map[api.Fact]int // the least rule
}

func (s *slow) side(u api.Holder) api.Side {
	if u.Clerk != 0 {
		home, _ := s.w.Home(u.Clerk)
		return home
	}
	return s.l[u.Subject].Side
}

func (s *slow) open(u api.Holder, y api.Spot) bool {
	switch y.Kind {
	case api.SpotThing:
		return s.w.Free(s.side(u), y.Ref) == api.OK
	case api.SpotMade:
		return s.w.Open(s.side(u), s.side(y.Of))
	}
	home, _ := s.w.Home(y.Ref)
	return s.w.Open(s.side(u), home)
}

func (s *slow) uses(u api.Holder) api.Uses {
	if u.Clerk == 0 {
		return api.Uses{Able: 63, Makes: true}
	}
	x, _ := s.w.What(u.Clerk)
	if !code.MayNames(x.Names) {
		return api.Uses{}
	}
	uses, _ := code.Uses(x.Code)
	return uses
}

var every = []api.Able{0, 1, 2, 4, 8, 16, 32}

// once goes over all rules once, and tells what they bring about.
func (s *slow) once(tell func(x api.Fact, rule int)) {
	has := func(x api.Fact) bool { _, ok := s.set[x]; return ok }
	for _, u := range s.h {
		uses := s.uses(u)
		in := func(rule int, x api.Spot) {
			for _, y := range s.spots {
				for _, a := range every {
					if has(holds(u, y, a)) {
						tell(lies(x, y, a), rule)
					}
				}
			}
		}
		out := func(rule int, x api.Spot) {
			for _, y := range s.spots {
				for _, a := range every {
					if has(lies(x, y, a)) {
						tell(holds(u, y, a), rule)
					}
				}
			}
		}
		if u.Clerk == 0 || uses.Makes || uses.Able&(api.Ask|api.Take) != 0 {
			for _, a := range every {
				tell(holds(u, madeBy(u), a), 4)
			}
		}
		for _, y := range s.spots {
			if y.Kind == api.SpotMade && has(holds(u, y, 0)) && s.open(u, y) && (uses.Makes || uses.Able != 0) {
				in(4, y)
				out(4, y)
			}
			for _, a := range every[1:] {
				if has(holds(u, y, a)) && uses.Able&a != 0 && s.open(u, y) {
					s.act(u, y, a, in, out, tell)
				}
			}
		}
	}
}

func (s *slow) act(u api.Holder, y api.Spot, a api.Able, in, out func(rule int, x api.Spot), tell func(x api.Fact, rule int)) {
	has := func(x api.Fact) bool { _, ok := s.set[x]; return ok }
	x := y
	if y.Kind == api.SpotThing {
		x = is(s.w.Base(y.Ref))
	}
	what, _ := s.w.What(x.Ref)
	kind := what.Kind
	if x.Kind != api.SpotThing {
		kind = api.NoKind
	}
	switch {
	case (a == api.Get || a == api.Take) && (kind == api.Cell || kind == api.Log || kind == api.Queue || kind == api.Promise):
		out(1, x)
	case (a == api.Put || a == api.Give) && (kind == api.Cell || kind == api.Log || kind == api.Queue):
		in(1, x)
	case (a == api.Put || a == api.Give) && kind == api.Keeper:
		if p, _ := s.w.What(what.Of); !p.Full {
			in(1, is(what.Of))
		}
	case a == api.Ask && kind == api.Sealer:
		tell(holds(u, box(x.Ref, u), 0), 2)
		in(2, box(x.Ref, u))
	case a == api.Ask && kind == api.Opener:
		for _, b := range s.spots {
			z, _ := s.w.What(b.Ref)
			if (b.Kind == api.SpotBox && b.Ref == what.Of || b.Kind == api.SpotThing && z.Kind == api.Box && z.Of == what.Of) && has(holds(u, b, 0)) {
				out(2, b)
			}
		}
	case a == api.Ask && kind == api.Mint, a == api.Take && kind == api.Purse, a == api.Take && x.Kind == api.SpotPurse:
		m := x.Ref
		if kind == api.Purse {
			m = what.Of
		}
		for _, can := range []api.Able{0, api.Get, api.Take, api.Give} {
			tell(holds(u, purse(m), can), 3)
		}
	case a == api.Ask && kind == api.Clerk:
		for _, z := range s.spots {
			for _, can := range every {
				if has(holds(u, z, can)) {
					tell(holds(clerkH(x.Ref), z, can), 5)
				}
				if s.uses(clerkH(x.Ref)).Replies && has(holds(clerkH(x.Ref), z, can)) {
					tell(holds(u, z, can), 5)
				}
			}
		}
	}
}

func (s *slow) close() {
	for grew := true; grew; {
		grew = false
		s.once(func(x api.Fact, rule int) {
			if _, ok := s.set[x]; !ok {
				s.set[x], grew = rule, true
			}
		})
	}
}

// random makes a world of things that hold one another, and subjects.
func random(t *testing.T, r *rand.Rand, clerks bool) (*world.World, []api.Subject) {
	t.Helper()
	w, _ := world.New(0, 0)
	some := func() api.Ref { return api.Ref(1 + r.Intn(w.Len())) }
	w.Make(api.What{Kind: api.Log})
	texts := []string{"reply it", "x = get a ; reply x", "x = put a it", "x = ask a it ; y = ask b x ; reply [ y a ]", "x = make cell it ; reply x", "x = take a 1 ; y = give b x", "k = make clerk [ a ] { x = get a ; reply x } ; reply k", "x = await a", "s o = make seal ; x = ask s b ; reply o", "fail"}
	for w.Len() < 12 {
		x := api.What{Kind: api.Kind(1 + r.Intn(12)), Home: api.Side(r.Intn(3))}
		switch x.Kind {
		case api.Cell:
			if r.Intn(3) == 0 {
				x.Value = ref(some())
			}
		case api.Log, api.Queue:
			if r.Intn(3) == 0 {
				x.Values = []api.Value{list(ref(some()), ref(some()))}
			}
		case api.Promise:
			p, _ := w.Make(x)
			x.Kind, x.Of = api.Keeper, p
		case api.Sealer, api.Mint:
			p, _ := w.Make(x)
			x.Kind, x.Of = map[api.Kind]api.Kind{api.Sealer: api.Opener, api.Mint: api.Purse}[x.Kind], p
			if x.Kind == api.Opener && r.Intn(2) == 0 {
				w.Make(api.What{Kind: api.Box, Home: x.Home, Of: p, Value: ref(some())})
			}
		case api.Clerk:
			if !clerks {
				continue
			}
			x.Code, x.Names = read(t, texts[r.Intn(len(texts))]), names("a", some(), "b", some())
		case api.Tally:
		default:
			continue
		}
		w.Make(x)
	}
	for range 4 {
		switch r.Intn(3) {
		case 0:
			w.Facet(some(), api.Able(r.Intn(64)))
			w.Facet(some(), []api.Able{api.Get, api.Put, api.Give}[r.Intn(3)])
		case 1:
			s, _ := w.Make(api.What{Kind: api.Switch, Home: 1, Full: r.Intn(4) == 0})
			w.Make(api.What{Kind: api.Gate, Home: 1, Of: some(), By: s})
		case 2:
			n, _ := w.Make(api.What{Kind: api.Tally, Home: 2})
			w.Make(api.What{Kind: api.Tap, Home: 2, Of: some(), By: n})
		}
	}
	if r.Intn(3) == 0 {
		w.CutEdge(1 + r.Intn(2))
	}
	do := []string{"x = get a", "x = put a b", "x = put a [ x b ]", "x = give a b", "x = give a x", "y = take a 1", "z = part y 0", "z = part x 0", "l = make log", "x = give a l", "b = get a", "g h = make gate a", "x = cut h", "a = make facet a get", "x = ask a b", "x = ask b x", "s o = make seal", "x = ask s b", "x = ask o x", "m = make mint", "b = ask m 5", "n = make cell [ a b ]",
		"k = make clerk [ a b ] { x = get a ; y = put b it ; reply [ x it b ] }", "x = ask k x", "k = make clerk [ a ] { y = ask a it ; s o = make seal ; reply [ y s o ] }", "a = part x 0", "b = part x 1", "a = x", "p q = make promise", "x = give q a", "t u = make tap a", "b = z"}
	var l []api.Subject
	for range 3 {
		var c []string
		for range 14 {
			c = append(c, do[r.Intn(len(do))])
		}
		l = append(l, who(t, w, api.Side(r.Intn(3)), strings.Join(c, " ; "), "a", some(), "b", some()))
	}
	return w, l
}

func TestAgainstSlow(t *testing.T) {
	r := rand.New(rand.NewSource(1))
	for range 40 {
		w, l := random(t, r, true)
		f := of(t, w, l...)
		s := &slow{w: w, l: l, h: f.Holders(), spots: f.Spots(), set: map[api.Fact]int{}}
		for x := range f.Each() {
			s.set[x] = 0
		}
		for range r.Intn(3) {
			u, y := s.h[r.Intn(len(s.h))], s.spots[r.Intn(len(s.spots))]
			x := holds(u, y, every[r.Intn(7)])
			f.Add(x)
			s.set[x], s.set[holds(u, y, 0)] = 0, 0
		}
		miss, rule := api.Fact{}, 0
		first := func(x api.Fact, by int) {
			if f.Has(x) {
				return
			}
			a, _ := f.g.placed(x)
			b, ok := f.g.placed(miss)
			if o := order(a, b); !ok || rule == 0 || o < 0 || o == 0 && by < rule {
				miss, rule = x, by
			}
		}
		s.once(first)
		if m, n, kept := f.Kept(); kept != (rule == 0) || m != miss || n != rule {
			t.Error("kept", m, n, kept, miss, rule)
		}
		s.close()
		f.Close()
		if f.Len() != len(s.set) {
			t.Error(f.Len(), len(s.set))
		}
		for x := range f.Each() {
			if _, ok := s.set[x]; !ok {
				t.Error("too much", x)
			}
		}
		// With a fact less it is not kept, or has not all facts of the world.
		all := slices.Collect(f.Each())
		now := of(t, w, l...)
		for range 8 {
			less, _ := Empty(w, l...)
			drop := all[r.Intn(len(all))]
			for _, x := range all {
				if x != drop && !(drop.Can == 0 && x.By == drop.By && x.In == drop.In && x.What == drop.What) {
					less.Add(x)
				}
			}
			if _, _, kept := less.Kept(); kept && now.Has(drop) == false && bound(t, w, l...).Has(drop) {
				t.Error("kept without", drop)
			}
		}
	}
}

func TestP23_7Least(t *testing.T) {
	r := rand.New(rand.NewSource(2))
	for range 30 {
		w, l := random(t, r, true)
		now, all := of(t, w, l...), bound(t, w, l...)
		if _, has := all.World(); !has {
			t.Error("a fact of the world is wanting")
		}
		if miss, rule, kept := all.Kept(); !kept {
			t.Error(miss, rule)
		}
		c := now.Copy()
		if n := c.Close(); n != all.Len()-now.Len() || !Less(c, all) || !Less(all, c) || c.Close() != 0 || !Less(now, all) {
			t.Error(n)
		}
		more := now.Copy()
		more.Add(holds(sub(0), all.Spots()[r.Intn(len(all.Spots()))], 0))
		again := more.Copy()
		more.Close()
		again.Add(holds(sub(1), all.Spots()[r.Intn(len(all.Spots()))], api.Get))
		again.Close()
		if !Less(all, more) || !Less(more, again) {
			t.Error("more is less")
		}
		v := w.Copy()
		if Less(of(t, v, l...), of(t, w, l[:2]...)) || !Less(now, of(t, v, l...)) {
			t.Error("of one world")
		}
		v.Make(api.What{Kind: api.Log})
		if Less(now, of(t, v, l...)) {
			t.Error("of one world")
		}
	}
}

// marks tells the marks of all things, of those that were made later, too.
func marks(t *testing.T, p *pick.Play) map[api.Ref]api.Spot {
	t.Helper()
	begin, _ := p.Begin()
	first, w := begin.World(), p.World()
	out := map[api.Ref]api.Spot{}
	for r, kind := range first.Things() {
		if kind != api.Facet {
			out[r] = is(r)
		}
	}
	roots := map[api.Ref]api.Holder{} // of clerks that were made later
	for _, d := range p.History() {
		for _, deed := range d.Deeds {
			u := sub(d.Turn.Who)
			if deed.By != 0 {
				u = clerkH(deed.By)
				if root, ok := roots[deed.By]; ok {
					u = root
				}
			}
			for _, r := range deed.Made {
				if first.Is(r) || w.Kind(r) == api.Facet || out[r].Kind != 0 {
					continue
				}
				x, _ := w.What(r)
				switch {
				case x.Kind == api.Box && first.Is(x.Of):
					out[r] = box(x.Of, u)
				case x.Kind == api.Purse && first.Is(x.Of):
					out[r] = purse(x.Of)
				default:
					out[r] = madeBy(u)
				}
				if x.Kind == api.Clerk {
					roots[r] = u
				}
			}
		}
	}
	for r, kind := range w.Things() {
		if kind == api.Facet {
			x, _ := w.What(r)
			out[r] = out[x.Of]
		}
	}
	return out
}

func TestP23_8Sound(t *testing.T) {
	r := rand.New(rand.NewSource(3))
	for range 150 {
		w, l := random(t, r, true)
		f := bound(t, w, l...)
		p, e := pick.New(w, l...)
		if e != api.OK {
			t.Fatal(e)
		}
		for range 30 {
			if r.Intn(20) == 0 {
				p.Turn(api.Turn{Edge: 1 + r.Intn(2)})
			}
			p.Turn(api.Turn{Who: r.Intn(3)})
		}
		now, of := p.World(), marks(t, p)
		for n, s := range p.Subjects() {
			for _, name := range s.Names {
				for _, q := range value.Refs(name.Value) {
					if !f.Has(holds(sub(n), of[q], 0)) {
						t.Error("held, and not in the bound", q, of[q])
					}
					for _, a := range every[1:] {
						if now.Able(q)&a == 0 {
							continue
						}
						if !f.Has(holds(sub(n), of[q], a)) {
							t.Error("held, and not in the bound", q, of[q], a)
						}
						if base := now.Base(q); w.Is(base) && now.Free(s.Side, q) == api.OK {
							says(t, f, sub(n), a, base, true)
						}
					}
				}
			}
		}
		// The trace knows the same makers.
		x, _ := trace.Of(p)
		for q, y := range of {
			if by, _, made := x.Maker(q); made && y.Kind == api.SpotMade && !by.Is && y.Of != sub(by.Who) {
				t.Error(q, by, y)
			}
		}
	}
}

func TestP23_9Why(t *testing.T) {
	r := rand.New(rand.NewSource(4))
	for range 12 {
		w, l := random(t, r, true)
		f := bound(t, w, l...)
		all := slices.Collect(f.Each())
		for range 12 {
			x := all[r.Intn(len(all))]
			links, e := f.Why(x)
			if n, g := f.Follows(links...); e != api.OK || g != api.OK || n != len(links) || links[n-1].Fact != x {
				t.Fatal(x, e, n, g)
			}
			met := map[api.Fact]int{}
			for i, y := range links {
				met[y.Fact]++
				if met[y.Fact] > 1 || !f.Has(y.Fact) {
					t.Error(i, y)
				}
			}
			// Whatever is taken has no fact that is not in the bound.
			for range 20 {
				i := r.Intn(len(links))
				turned := slices.Clone(links)
				turned[i].Fact = all[r.Intn(len(all))]
				turned[i].Fact.Can = every[r.Intn(7)]
				turned[i].Rule = r.Intn(6)
				n, _ := f.Follows(turned...)
				for _, y := range turned[:n] {
					if !f.Has(y.Fact) {
						t.Error("taken, and not in the bound", y)
					}
				}
			}
		}
	}
}

func TestP23_10More(t *testing.T) {
	r := rand.New(rand.NewSource(5))
	for range 30 {
		w, l := random(t, r, false)
		nobody := bound(t, w)
		for x := range nobody.Each() {
			if x.In == (api.Spot{}) {
				t.Error(x)
			}
		}
		f := bound(t, w, l...)
		more := slices.Clone(l)
		some := api.Ref(1 + r.Intn(w.Len()))
		more[1].Names = append(slices.Clone(l[1].Names), names("zz", some)...)
		more[1].Seen = append(slices.Clone(l[1].Seen), some)
		slices.Sort(more[1].Seen)
		more[1].Seen = slices.Compact(more[1].Seen)
		g := bound(t, w, more...)
		v := w.Copy()
		for q, kind := range v.Things() {
			if x, _ := v.What(q); kind == api.Log {
				x.Values = append(x.Values, ref(some))
				v.Lay(q, x)
			}
		}
		h := bound(t, v, l...)
		for x := range f.Each() {
			if !g.Has(x) || !h.Has(x) {
				t.Error("a fact went", x)
			}
		}
	}
}

func TestExample(t *testing.T) {
	w, _ := world.New()
	w.Make(api.What{Kind: api.Cell})
	w.Make(api.What{Kind: api.Log})
	w.Facet(1, api.Get)
	w.Facet(1, api.Put)
	f := bound(t, w, who(t, w, 0, "", "c", api.Ref(3), "l", l), who(t, w, 0, "", "g", g))
	says(t, f, sub(1), api.Get, l, false)
	if !reflect.DeepEqual(f.Holders(), []api.Holder{sub(0), sub(1)}) {
		t.Error(f.Holders())
	}
}
