package world

import (
	"math/rand"
	"reflect"
	"slices"
	"strings"
	"testing"

	"postern/api"
	"postern/value"
)

func num(n int64) api.Value         { return api.Value{Kind: api.Number, N: n} }
func ref(r api.Ref) api.Value       { return api.Value{Kind: api.Reference, R: r} }
func list(l ...api.Value) api.Value { return api.Value{Kind: api.List, L: l} }

// made makes a world, or ends the test.
func made(t *testing.T, parents ...api.Side) *World {
	t.Helper()
	w, e := New(parents...)
	if e != api.OK {
		t.Fatal(e)
	}
	return w
}

// must makes a thing, or ends the test.
func must(t *testing.T, w *World, x api.What) api.Ref {
	t.Helper()
	r, e := w.Make(x)
	if e != api.OK {
		t.Fatal(x.Kind, e)
	}
	return r
}

// full is a world with things of all kinds on side 1; the numbers by kinds.
func full(t *testing.T) (*World, map[api.Kind]api.Ref) {
	w := made(t, 0, 0, 1)
	at := map[api.Kind]api.Ref{}
	lay := func(x api.What) {
		x.Home = 1
		at[x.Kind] = must(t, w, x)
	}
	lay(api.What{Kind: api.Cell, Value: num(7)})
	lay(api.What{Kind: api.Log, Values: []api.Value{num(1), ref(1)}})
	lay(api.What{Kind: api.Queue, Values: []api.Value{list(ref(1))}})
	lay(api.What{Kind: api.Tally, N: 5})
	lay(api.What{Kind: api.Sealer})
	lay(api.What{Kind: api.Opener, Of: at[api.Sealer]})
	lay(api.What{Kind: api.Box, Of: at[api.Sealer], Value: ref(2)})
	lay(api.What{Kind: api.Mint, N: 10, Lost: 2})
	lay(api.What{Kind: api.Purse, Of: at[api.Mint], N: 3})
	lay(api.What{Kind: api.Promise})
	lay(api.What{Kind: api.Keeper, Of: at[api.Promise]})
	lay(api.What{Kind: api.Clerk, Code: []api.Stmt{{Op: api.Reply, A: api.Expr{Kind: api.EName, S: "c"}}}, Names: []api.Name{{Name: "c", Value: ref(1)}}})
	lay(api.What{Kind: api.Switch})
	lay(api.What{Kind: api.Gate, Of: at[api.Cell], By: at[api.Switch]})
	lay(api.What{Kind: api.Tap, Of: at[api.Gate], By: at[api.Tally]})
	f, e := w.Facet(at[api.Tap], api.Get)
	if e != api.OK {
		t.Fatal(e)
	}
	at[api.Facet] = f
	return w, at
}

func TestP7_1Worlds(t *testing.T) {
	if _, e := New(0, 0, 1); e != api.OK {
		t.Error(e)
	}
	for _, p := range [][]api.Side{{0, 2}, {1}, {-1}, make([]api.Side, 16)} {
		if w, e := New(p...); w != nil || e != api.ErrWorld {
			t.Error(p, e)
		}
	}
	if w, e := New(make([]api.Side, 15)...); e != api.OK || w.Sides() != 16 {
		t.Error(e)
	}
	parents := []api.Side{0, 0}
	w := made(t, parents...)
	parents[1] = 1
	if p, _ := w.Parent(2); p != 0 {
		t.Error("kept what was handed in")
	}
	w, at := full(t)
	x := w.Tell()
	v, e := From(x)
	if e != api.OK || !Same(v, w) || !Same(w, w.Copy()) {
		t.Fatal(e)
	}
	x.Things[0].What.Value = num(9)
	x.Made[1] = 0
	x.Parents[0] = 5
	if !Same(v, w) {
		t.Error("shared with what was told")
	}
	c := w.Copy()
	c.CutEdge(1)
	must(t, c, api.What{Kind: api.Cell})
	c.Lay(at[api.Cell], api.What{Kind: api.Cell, Home: 1, Value: num(8)})
	if !Same(v, w) || Same(c, w) {
		t.Error("the copy is seen")
	}
	if e := w.Become(c); e != api.OK || !Same(w, c) {
		t.Error(e)
	}
	must(t, c, api.What{Kind: api.Cell})
	c.Facet(at[api.Log], api.Get)
	if _, ok := w.Find(at[api.Log], api.Get); ok || Same(w, c) || w.Len()+2 != c.Len() {
		t.Error("become shares")
	}
	if w.Become(w) != api.OK {
		t.Error("itself")
	}
	for _, z := range []*World{nil, {}} {
		if z.Become(w) != api.ErrNil || w.Become(z) != api.ErrNil || Same(z, z) || Same(z, w) || Same(w, z) || z.Copy() != nil || !reflect.DeepEqual(z.Tell(), api.World{}) {
			t.Error("nil")
		}
	}
}

func TestNilWorlds(t *testing.T) {
	for _, w := range []*World{nil, {}} {
		_, e1 := w.Parent(1)
		_, e2 := w.Make(api.What{})
		_, e3 := w.Facet(1, 0)
		_, e4 := w.What(1)
		for i, e := range []api.Errno{e1, e2, e3, e4, w.CutEdge(1), w.Lay(1, api.What{}), w.Drop(), w.Free(0, 1)} {
			if e != api.ErrNil {
				t.Error(i, e)
			}
		}
		_, ok1 := w.Find(1, 0)
		_, ok2 := w.Home(1)
		if ok1 || ok2 || w.Sides() != 0 || w.IsCut(1) || w.Open(0, 0) || w.Is(1) || w.Kind(1) != 0 || w.Able(1) != 0 || w.Base(1) != 0 || w.Way(1) != nil || w.Len() != 0 || w.Made(0) != 0 {
			t.Error("something is there")
		}
		for r := range w.Things() {
			t.Error(r)
		}
	}
}

func TestP7_2Sides(t *testing.T) {
	w := made(t, 0, 0, 1)
	if !w.Open(2, 3) || w.CutEdge(1) != api.OK || w.Open(2, 3) || !w.Open(1, 3) || !w.Open(0, 2) {
		t.Error("the example")
	}
	if w.CutEdge(1) != api.OK || !w.IsCut(1) || w.IsCut(2) || w.IsCut(0) || w.IsCut(4) || w.IsCut(-1) {
		t.Error("cut")
	}
	for _, n := range []int{0, 4, -1, 1 << 40} {
		if w.CutEdge(n) != api.ErrArg {
			t.Error(n)
		}
	}
	for s, want := range map[api.Side]api.Side{1: 0, 2: 0, 3: 1} {
		if p, e := w.Parent(s); p != want || e != api.OK {
			t.Error(s, p, e)
		}
	}
	for _, s := range []api.Side{0, 4, -1} {
		if p, e := w.Parent(s); p != 0 || e != api.ErrArg {
			t.Error(s, p, e)
		}
	}
	if w.Open(0, 4) || w.Open(-1, 0) || w.Open(-1, -1) || w.Open(9, 9) || !w.Open(3, 3) || w.Sides() != 4 {
		t.Error("no sides")
	}
}

// wrongWhats are no Whats that a world of four sides has, references left aside.
func wrongWhats() []api.What {
	deepExpr := func(n int) api.Expr {
		e := api.Expr{Kind: api.EList}
		for ; n > 1; n-- {
			e = api.Expr{Kind: api.EList, L: []api.Expr{e}}
		}
		return e
	}
	code := func(n int) []api.Stmt { return make([]api.Stmt, n) }
	endless := code(1)
	endless[0].Then = endless
	big := strings.Repeat("a", 257)
	l := []api.What{
		{}, {Kind: 17}, {Kind: api.Cell, Home: 4}, {Kind: api.Cell, Home: -1}, {Kind: api.Cell, Value: ref(0)}, {Kind: api.Cell, Value: api.Value{Kind: api.Text, S: big}}, {Kind: api.Cell, Value: api.Value{N: 1}},
		{Kind: api.Log, Values: []api.Value{{Kind: 9}}}, {Kind: api.Log, Values: make([]api.Value, 512)}, {Kind: api.Queue, Values: make([]api.Value, 512)},
		{Kind: api.Tally, N: -1}, {Kind: api.Tally, N: api.MaxMoney + 1}, {Kind: api.Mint, N: -1}, {Kind: api.Mint, N: api.MaxMoney + 1}, {Kind: api.Mint, N: 1, Lost: 2}, {Kind: api.Mint, Lost: -1},
		{Kind: api.Promise, Value: num(1)}, {Kind: api.Facet, Of: 1, Set: 1}, {Kind: api.Switch, Of: 1},
		{Kind: api.Clerk, Code: code(513)}, {Kind: api.Clerk, Code: []api.Stmt{{Then: code(200), Else: code(200), Code: code(112)}}}, {Kind: api.Clerk, Code: endless},
		{Kind: api.Clerk, Code: []api.Stmt{{With: make([]string, 65)}}}, {Kind: api.Clerk, Names: make([]api.Name, 65)}, {Kind: api.Clerk, Names: []api.Name{{Value: api.Value{N: 1}}}},
		{Kind: api.Clerk, Code: []api.Stmt{{A: api.Expr{L: make([]api.Expr, 512)}}}}, {Kind: api.Clerk, Code: []api.Stmt{{B: deepExpr(17)}}}, {Kind: api.Clerk, Code: []api.Stmt{{Else: []api.Stmt{{A: deepExpr(17)}}}}},
	}
	for _, k := range []api.Kind{api.Cell, api.Log, api.Tally, api.Queue, api.Sealer, api.Opener, api.Box, api.Mint, api.Purse, api.Promise, api.Keeper, api.Clerk, api.Switch, api.Gate, api.Tap} {
		f, _ := asked(k)
		for bit, x := range map[fields]api.What{hasValue: {Value: num(0)}, hasValues: {Values: []api.Value{{}}}, hasN: {N: 1}, hasLost: {Lost: 1, N: 1}, hasOf: {Of: 1}, hasBy: {By: 1},
			hasSet: {Set: 1}, hasFull: {Full: true}, hasCode: {Code: code(1)}, hasNames: {Names: []api.Name{{}}}} {
			if f&bit == 0 {
				x.Kind = k
				l = append(l, x)
			}
		}
	}
	return l
}

func TestP7_3Make(t *testing.T) {
	w := made(t, 0, 0, 1)
	if r, e := w.Make(api.What{Kind: api.Cell, Home: 1, Value: num(7)}); r != 1 || e != api.OK {
		t.Error(r, e)
	}
	if r, e := w.Make(api.What{Kind: api.Cell, Value: ref(9)}); r != 0 || e != api.ErrRef {
		t.Error(r, e)
	}
	if r, e := w.Make(api.What{Kind: api.Box, Home: 1, Of: 1}); r != 0 || e != api.ErrWhat {
		t.Error(r, e)
	}
	before := w.Copy()
	for i, x := range wrongWhats() {
		if r, e := w.Make(x); r != 0 || e != api.ErrWhat {
			t.Error(i, x.Kind, r, e)
		}
	}
	for _, x := range []api.What{{Kind: api.Opener}, {Kind: api.Box}, {Kind: api.Purse}, {Kind: api.Keeper}, {Kind: api.Gate, Of: 1}, {Kind: api.Gate, By: 1}, {Kind: api.Tap, Of: 1}, {Kind: api.Tap, By: 1}, {Kind: api.Opener, Of: 9},
		{Kind: api.Log, Values: []api.Value{num(1), list(ref(9))}}, {Kind: api.Clerk, Names: []api.Name{{Value: ref(9)}}}, {Kind: api.Box, Of: 1, Value: ref(9)}, {Kind: api.Promise, Full: true, Value: ref(9)}, {Kind: api.Tap, Of: -1, By: 1}} {
		if r, e := w.Make(x); r != 0 || e != api.ErrRef {
			t.Error(x.Kind, r, e)
		}
	}
	if !Same(w, before) {
		t.Error("a refused call changed something")
	}
	// Values that may not be are found ahead of what is no thing.
	if _, e := w.Make(api.What{Kind: api.Opener, N: 1}); e != api.ErrWhat {
		t.Error(e)
	}
}

func TestP7_3Joins(t *testing.T) {
	w, at := full(t)
	before := w.Copy()
	other := func(k api.Kind) api.Ref { return must(t, w, api.What{Kind: k, Home: 1}) }
	for _, x := range []api.What{
		{Kind: api.Opener, Home: 1, Of: at[api.Sealer]}, {Kind: api.Opener, Home: 1, Of: at[api.Cell]}, {Kind: api.Opener, Home: 0, Of: at[api.Sealer]},
		{Kind: api.Box, Home: 0, Of: at[api.Sealer]}, {Kind: api.Box, Home: 1, Of: at[api.Opener]}, {Kind: api.Purse, Home: 0, Of: at[api.Mint]}, {Kind: api.Purse, Home: 1, Of: at[api.Purse]},
		{Kind: api.Keeper, Home: 1, Of: at[api.Promise]}, {Kind: api.Keeper, Home: 1, Of: at[api.Cell]}, {Kind: api.Gate, Home: 1, Of: 1, By: at[api.Switch]}, {Kind: api.Gate, Home: 1, Of: 1, By: at[api.Cell]},
		{Kind: api.Tap, Home: 0, Of: 1, By: at[api.Tally]}, {Kind: api.Tap, Home: 1, Of: 1, By: at[api.Cell]},
	} {
		if r, e := w.Make(x); r != 0 || e != api.ErrWhat {
			t.Error(x, r, e)
		}
	}
	if !Same(w, before) {
		t.Error("a refused call changed something")
	}
	for _, x := range []api.What{{Kind: api.Opener, Of: other(api.Sealer)}, {Kind: api.Keeper, Of: other(api.Promise)}, {Kind: api.Purse, Of: at[api.Mint], N: api.MaxMoney}, {Kind: api.Box, Of: at[api.Sealer]},
		{Kind: api.Tap, Of: at[api.Facet], By: at[api.Tally]}, {Kind: api.Mint, N: api.MaxMoney, Lost: api.MaxMoney}, {Kind: api.Promise, Full: true, Value: num(1)}, {Kind: api.Switch, Full: true}} {
		x.Home = 1
		must(t, w, x)
	}
	far := must(t, w, api.What{Kind: api.Switch})
	if _, e := w.Make(api.What{Kind: api.Gate, Home: 1, Of: 1, By: far}); e != api.ErrWhat {
		t.Error(e)
	}
	sw := other(api.Switch)
	g := must(t, w, api.What{Kind: api.Gate, Home: 1, Of: at[api.Facet], By: sw})
	if x, _ := w.What(sw); x.Of != g {
		t.Error(x)
	}
	x := api.What{Kind: api.Log, Values: []api.Value{list(num(1))}}
	r := must(t, w, x)
	x.Values[0].L[0] = num(2)
	if y, _ := w.What(r); y.Values[0].L[0].N != 1 {
		t.Error("kept what was handed in")
	}
}

func TestP7_3Limit(t *testing.T) {
	w := made(t, 0)
	for range api.MaxThings {
		must(t, w, api.What{Kind: api.Log, Home: 1})
	}
	if r, e := w.Make(api.What{Kind: api.Log, Home: 1}); r != 0 || e != api.ErrLimit {
		t.Error(r, e)
	}
	if _, e := w.Make(api.What{Kind: api.Tally, Home: 1, N: -1}); e != api.ErrWhat {
		t.Error(e)
	}
	if w.Made(1) != 512 || w.Made(0) != 0 || w.Made(2) != 0 || w.Made(-1) != 0 {
		t.Error(w.Made(1))
	}
	w.Drop(1, 2)
	if _, e := w.Make(api.What{Kind: api.Log, Home: 1}); e != api.ErrLimit {
		t.Error("what was swept counts", e)
	}
	if r, e := w.Facet(3, api.Get); r != 513 || e != api.OK {
		t.Error("facets are not counted", r, e)
	}
	must(t, w, api.What{Kind: api.Log})
}

func TestP7_3Facet(t *testing.T) {
	w := made(t)
	must(t, w, api.What{Kind: api.Cell})
	for i, c := range []struct {
		target api.Ref
		set    api.Able
		want   api.Ref
		e      api.Errno
	}{{1, api.Get, 2, 0}, {1, api.Get, 2, 0}, {1, api.Get | api.Put, 0, api.ErrWhat}, {2, 0, 0, api.ErrWhat}, {1, api.Take, 0, api.ErrWhat}, {1, 64, 0, api.ErrWhat}, {1, 65, 0, api.ErrWhat}, {9, 64, 0, api.ErrRef}, {0, 1, 0, api.ErrRef}, {1, 0, 3, 0}, {1, api.Put, 4, 0}} {
		if r, e := w.Facet(c.target, c.set); r != c.want || e != c.e {
			t.Error(i, r, e)
		}
		if r, ok := w.Find(c.target, c.set); ok != (c.e == api.OK) || ok && r != c.want || !ok && r != 0 {
			t.Error(i, r, ok)
		}
	}
	s := must(t, w, api.What{Kind: api.Sealer})
	b := must(t, w, api.What{Kind: api.Box, Of: s})
	if _, e := w.Facet(b, 0); e != api.ErrWhat {
		t.Error("all that a box can is none", e)
	}
}

func TestP7_4WhatAndLay(t *testing.T) {
	w, at := full(t)
	if x, e := w.What(99); e != api.ErrRef || !reflect.DeepEqual(x, api.What{}) {
		t.Error(x, e)
	}
	x, _ := w.What(at[api.Clerk])
	x.Code[0].A.S = "z"
	x.Names[0].Value = num(1)
	y, _ := w.What(at[api.Clerk])
	if y.Code[0].A.S != "c" || y.Names[0].Value.R != 1 {
		t.Error("shared")
	}
	for k, r := range at {
		x, e := w.What(r)
		if x.Kind != k || e != api.OK || w.Lay(r, x) != api.OK {
			t.Error(k, e)
		}
		for _, turned := range []func(*api.What){func(x *api.What) { x.Kind++ }, func(x *api.What) { x.Home++ }, func(x *api.What) { x.Of++ }, func(x *api.What) { x.By++ }, func(x *api.What) { x.Set++ }} {
			z := x
			turned(&z)
			if e := w.Lay(r, z); e != api.ErrWhat {
				t.Error(k, z, e)
			}
		}
	}
	if w.Lay(99, api.What{}) != api.ErrRef || w.Lay(1, api.What{Kind: api.Log, Home: 1}) != api.ErrWhat {
		t.Error("lay")
	}
	lay := func(k api.Kind, turn func(*api.What), want api.Errno) {
		t.Helper()
		x, _ := w.What(at[k])
		turn(&x)
		before := w.Copy()
		if e := w.Lay(at[k], x); e != want {
			t.Error(k, e)
		}
		if y, _ := w.What(at[k]); want == api.OK && !sameWhat(&x, &y) || want != api.OK && !Same(w, before) {
			t.Error(k, y)
		}
	}
	lay(api.Cell, func(x *api.What) { x.Value = ref(9999) }, api.ErrRef)
	lay(api.Cell, func(x *api.What) { x.Value = ref(-1) }, api.ErrWhat)
	lay(api.Cell, func(x *api.What) { x.Value = list(ref(1)) }, api.OK)
	lay(api.Log, func(x *api.What) { x.Values = make([]api.Value, 512) }, api.ErrWhat)
	lay(api.Tally, func(x *api.What) { x.N = api.MaxMoney }, api.OK)
	lay(api.Mint, func(x *api.What) { x.Lost = 11 }, api.ErrWhat)
	lay(api.Promise, func(x *api.What) { x.Full, x.Value = true, num(1) }, api.OK)
	lay(api.Promise, func(x *api.What) { x.Full, x.Value = false, api.Value{} }, api.ErrWhat)
	lay(api.Switch, func(x *api.What) { x.Full = true }, api.OK)
	lay(api.Switch, func(x *api.What) { x.Full = false }, api.ErrWhat)
	lay(api.Switch, func(x *api.What) { x.Of = 0 }, api.ErrWhat)
	lay(api.Clerk, func(x *api.What) { x.Names[0].Value = ref(9999) }, api.ErrRef)
	lay(api.Clerk, func(x *api.What) { x.Names[0].Name = "any text" }, api.OK)
	lay(api.Facet, func(x *api.What) {}, api.OK)
}

func TestP7_5Drop(t *testing.T) {
	w := made(t, 0, 0, 1)
	must(t, w, api.What{Kind: api.Cell, Home: 1})
	w.Facet(1, api.Get)
	sw := must(t, w, api.What{Kind: api.Switch})
	g := must(t, w, api.What{Kind: api.Gate, Of: 2, By: sw})
	before := w.Copy()
	for _, c := range []struct {
		l []api.Ref
		e api.Errno
	}{{[]api.Ref{1}, api.ErrHeld}, {[]api.Ref{2}, api.ErrHeld}, {[]api.Ref{2, g}, api.ErrHeld}, {[]api.Ref{sw}, api.ErrHeld}, {[]api.Ref{1, 9, 1}, api.ErrRef}, {[]api.Ref{2, 0}, api.ErrRef}, {nil, api.OK}} {
		if e := w.Drop(c.l...); e != c.e || !Same(w, before) {
			t.Error(c, e)
		}
	}
	if e := w.Drop(1, g, 1); e != api.OK || w.Len() != 1 || w.Made(1) != 1 || w.Made(0) != 2 {
		t.Error(e, w.Len())
	}
	if x, _ := w.What(sw); x.Of != 0 {
		t.Error(x)
	}
	if _, ok := w.Find(1, api.Get); ok || w.Is(2) {
		t.Error("the facet stayed")
	}
	if r := must(t, w, api.What{Kind: api.Tally}); r != 5 {
		t.Error(r)
	}
	if r := must(t, w, api.What{Kind: api.Gate, Of: 5, By: sw}); r != 6 {
		t.Error("a switch whose gate is gone may have another one", r)
	}
}

func TestP7_5Held(t *testing.T) {
	w, at := full(t)
	before := w.Copy()
	for _, k := range []api.Kind{api.Cell, api.Log, api.Sealer, api.Mint, api.Promise, api.Tally, api.Switch, api.Gate, api.Facet} {
		if e := w.Drop(at[k]); e != api.ErrHeld || !Same(w, before) {
			t.Error(k, e)
		}
	}
	c := must(t, w, api.What{Kind: api.Cell})
	k := must(t, w, api.What{Kind: api.Clerk, Names: []api.Name{{Value: list(ref(c))}}})
	if w.Drop(c) != api.ErrHeld || w.Drop(c, k) != api.OK {
		t.Error("names hold")
	}
	p := must(t, w, api.What{Kind: api.Purse, Home: 1, Of: at[api.Mint], N: 4})
	if e := w.Drop(at[api.Purse], p); e != api.OK {
		t.Error(e)
	}
	if x, _ := w.What(at[api.Mint]); x.Lost != 9 || x.N != 10 {
		t.Error(x)
	}
	p, q := must(t, w, api.What{Kind: api.Purse, Home: 1, Of: at[api.Mint], N: api.MaxMoney}), must(t, w, api.What{Kind: api.Purse, Home: 1, Of: at[api.Mint], N: api.MaxMoney})
	if e := w.Drop(p, q); e != api.OK {
		t.Error(e)
	}
	if x, _ := w.What(at[api.Mint]); x.Lost != 10 {
		t.Error("never more than N", x)
	}
	if w.Drop(at[api.Opener], at[api.Keeper], at[api.Tap]) != api.OK {
		t.Error("nobody holds these")
	}
	must(t, w, api.What{Kind: api.Opener, Home: 1, Of: at[api.Sealer]})
	must(t, w, api.What{Kind: api.Keeper, Home: 1, Of: at[api.Promise]})
	var rest []api.Ref
	for r := range w.Things() {
		rest = append(rest, r)
	}
	if w.Drop(rest...) != api.OK || w.Len() != 0 {
		t.Error("all")
	}
}

func TestP7_6Asked(t *testing.T) {
	w, at := full(t)
	able := map[api.Kind]api.Able{api.Cell: 3, api.Log: 9, api.Queue: 12, api.Tally: 9, api.Sealer: 16, api.Opener: 16, api.Mint: 16, api.Purse: 13, api.Promise: 1, api.Keeper: 8, api.Clerk: 16, api.Switch: 33, api.Gate: 3, api.Tap: 3, api.Facet: 1, api.Box: 0}
	for k, r := range at {
		base := r
		if k == api.Gate || k == api.Tap || k == api.Facet {
			base = at[api.Cell]
		}
		home, ok := w.Home(r)
		if !w.Is(r) || w.Kind(r) != k || w.Able(r) != able[k] || w.Base(r) != base || ok != (k != api.Facet) || ok && home != 1 || !ok && home != 0 {
			t.Error(k, w.Kind(r), w.Able(r), w.Base(r), home, ok)
		}
	}
	if !slices.Equal(w.Way(at[api.Facet]), []api.Ref{at[api.Facet], at[api.Tap], at[api.Gate], at[api.Cell]}) || !slices.Equal(w.Way(1), []api.Ref{1}) || w.Way(99) != nil {
		t.Error(w.Way(at[api.Facet]))
	}
	if w.Is(0) || w.Is(99) || w.Is(-1) || w.Kind(99) != 0 || w.Able(99) != 0 || w.Base(99) != 0 || w.Len() != 16 {
		t.Error("no thing")
	}
	for _, c := range []struct {
		from api.Side
		r    api.Ref
		e    api.Errno
	}{{0, 1, 0}, {4, 99, api.ErrArg}, {-1, 1, api.ErrArg}, {0, 99, api.ErrRef}, {3, at[api.Facet], 0}} {
		if e := w.Free(c.from, c.r); e != c.e {
			t.Error(c, e)
		}
	}
	n := 0
	things := w.Things()
	must(t, w, api.What{Kind: api.Cell})
	for r, k := range things {
		if n++; int(r) != n || w.Kind(r) != k {
			t.Error(r, k)
		}
		if n == 3 {
			must(t, w, api.What{Kind: api.Cell})
		}
	}
	if n != 17 {
		t.Error("what there is when going over it begins", n)
	}
	for range things {
		break
	}
}

func TestP7_6Free(t *testing.T) {
	w := made(t, 0, 0)
	c := must(t, w, api.What{Kind: api.Cell})
	sw := must(t, w, api.What{Kind: api.Switch, Home: 1})
	g := must(t, w, api.What{Kind: api.Gate, Home: 1, Of: c, By: sw})
	f, _ := w.Facet(g, api.Get)
	if w.Free(2, f) != api.OK || w.Free(0, f) != api.OK {
		t.Error("open")
	}
	w.CutEdge(1)
	// From side 0 the cell itself is free, but not by the gate, which is at home behind the edge.
	if w.Free(0, c) != api.OK || w.Free(0, f) != api.ErrCut || w.Free(0, g) != api.ErrCut || w.Free(1, f) != api.ErrCut || w.Free(1, sw) != api.OK || w.Free(2, c) != api.OK {
		t.Error("cut")
	}
	w = made(t)
	c = must(t, w, api.What{Kind: api.Cell})
	sw = must(t, w, api.What{Kind: api.Switch})
	g = must(t, w, api.What{Kind: api.Gate, Of: c, By: sw})
	f, _ = w.Facet(g, api.Get)
	w.Lay(sw, api.What{Kind: api.Switch, Full: true, Of: g})
	if w.Free(0, c) != api.OK || w.Free(0, g) != api.ErrCut || w.Free(0, f) != api.ErrCut {
		t.Error("a gate that is cut")
	}
}

// wrongWorlds turns a world that may be into ones that may not.
func wrongWorlds(t *testing.T) map[string]api.World {
	out := map[string]api.World{}
	turned := func(name string, turn func(x *api.World, at map[api.Kind]int)) {
		w, _ := full(t)
		x := w.Tell()
		at := map[api.Kind]int{}
		for i, e := range x.Things {
			at[e.What.Kind] = i
		}
		turn(&x, at)
		out[name] = x
	}
	type what = map[api.Kind]int
	turned("parents", func(x *api.World, at what) { x.Parents[0] = 1 })
	turned("many sides", func(x *api.World, at what) { x.Parents = make([]api.Side, 16); x.Made = make([]int, 17) })
	turned("cut of no edge", func(x *api.World, at what) { x.Cuts = []int{4} })
	turned("edge 0", func(x *api.World, at what) { x.Cuts = []int{0} })
	turned("cuts twice", func(x *api.World, at what) { x.Cuts = []int{1, 1} })
	turned("cuts fall", func(x *api.World, at what) { x.Cuts = []int{2, 1} })
	turned("last", func(x *api.World, at what) { x.Last = 15 })
	turned("last below 0", func(x *api.World, at what) { *x = api.World{Last: -1, Made: []int{0}} })
	turned("last above what was made", func(x *api.World, at what) { *x = api.World{Last: 65, Made: []int{1}} })
	turned("last and facets", func(x *api.World, at what) { x.Last = 64*15 - 20 })
	turned("made", func(x *api.World, at what) { x.Made = x.Made[:3] })
	turned("made more sides", func(x *api.World, at what) { x.Made = append(x.Made, 0) })
	turned("made too few", func(x *api.World, at what) { x.Made[1] = 14 })
	turned("made below 0", func(x *api.World, at what) { x.Made[0] = -1 })
	turned("made too many", func(x *api.World, at what) { x.Made[0] = 513 })
	turned("numbers fall", func(x *api.World, at what) { x.Things[0], x.Things[1] = x.Things[1], x.Things[0] })
	turned("number twice", func(x *api.World, at what) { x.Things[1].Ref = 1 })
	turned("number 0", func(x *api.World, at what) { x.Things[0].Ref = 0 })
	turned("no such reference", func(x *api.World, at what) { x.Things[at[api.Cell]].What.Value = ref(17) })
	turned("no such target", func(x *api.World, at what) { x.Things[at[api.Facet]].What.Of = 17 })
	turned("target 0", func(x *api.World, at what) { x.Things[at[api.Tap]].What.Of = 0 })
	turned("targets come round", func(x *api.World, at what) { x.Things[at[api.Gate]].What.Of = x.Things[at[api.Tap]].Ref })
	turned("its own target", func(x *api.World, at what) { x.Things[at[api.Gate]].What.Of = x.Things[at[api.Gate]].Ref })
	turned("facet of a facet", func(x *api.World, at what) {
		x.Last = 17
		x.Things = append(x.Things, api.Entry{Ref: 17, What: api.What{Kind: api.Facet, Of: 16}})
	})
	turned("facet twice", func(x *api.World, at what) {
		x.Last = 17
		y := x.Things[15]
		y.Ref = 17
		x.Things = append(x.Things, y)
	})
	turned("facet of all", func(x *api.World, at what) { x.Things[15].What.Set = 3 })
	turned("facet of more", func(x *api.World, at what) { x.Things[15].What.Set = 5 })
	turned("facet with a home", func(x *api.World, at what) { x.Things[15].What.Home = 1 })
	turned("opener twice", func(x *api.World, at what) {
		x.Last, x.Made[1] = 17, 16
		y := x.Things[at[api.Opener]]
		y.Ref = 17
		x.Things = append(x.Things, y)
	})
	turned("keeper twice", func(x *api.World, at what) {
		x.Last, x.Made[1] = 17, 16
		y := x.Things[at[api.Keeper]]
		y.Ref = 17
		x.Things = append(x.Things, y)
	})
	turned("switch without its gate", func(x *api.World, at what) { x.Things[at[api.Switch]].What.Of = 0 })
	turned("switch of no gate", func(x *api.World, at what) { x.Things[at[api.Switch]].What.Of = 1 })
	turned("switch of another's gate", func(x *api.World, at what) {
		x.Last, x.Made[1] = 17, 16
		x.Things = append(x.Things, api.Entry{Ref: 17, What: api.What{Kind: api.Switch, Home: 1, Of: x.Things[at[api.Gate]].Ref}})
	})
	turned("box of no sealer", func(x *api.World, at what) { x.Things[at[api.Box]].What.Of = 1 })
	turned("box elsewhere", func(x *api.World, at what) { x.Made[0] = 1; x.Things[at[api.Box]].What.Home = 0 })
	turned("purse of no mint", func(x *api.World, at what) { x.Things[at[api.Purse]].What.Of = 1 })
	turned("tap by no tally", func(x *api.World, at what) { x.Things[at[api.Tap]].What.By = 1 })
	turned("gate by no switch", func(x *api.World, at what) { x.Things[at[api.Gate]].What.By = 1 })
	for _, x := range wrongWhats() {
		if x.Kind != api.Facet && (x.Kind != api.Switch || x.Of == 0) {
			out["what "+string(rune('a'+len(out)))] = api.World{Parents: []api.Side{0, 0, 1}, Things: []api.Entry{{Ref: 1, What: x}}, Last: 1, Made: []int{1, 1, 1, 1}}
		}
	}
	return out
}

func TestP7_1From(t *testing.T) {
	for name, x := range wrongWorlds(t) {
		if w, e := From(x); w != nil || e != api.ErrWorld {
			t.Error(name, e)
		}
	}
	// 15 things with 3+3+3+3+1+1+0+1+7+1+1+1+3+3+3 facets that can be made, one of them there.
	w, _ := full(t)
	x := w.Tell()
	x.Last = 64*15 - 33
	if _, e := From(x); e != api.OK {
		t.Error(e)
	}
	x.Last++
	if _, e := From(x); e != api.ErrWorld {
		t.Error(e)
	}
	if w, e := From(api.World{Made: []int{0}}); e != api.OK || w.Sides() != 1 {
		t.Error(e)
	}
	if _, e := From(api.World{}); e != api.ErrWorld {
		t.Error(e)
	}
	// What stands before other things may have a lesser number than these.
	x = api.World{Last: 4, Made: []int{3}, Things: []api.Entry{{Ref: 1, What: api.What{Kind: api.Facet, Of: 2, Set: 1}}, {Ref: 2, What: api.What{Kind: api.Gate, Of: 4, By: 3}}, {Ref: 3, What: api.What{Kind: api.Switch, Of: 2}}, {Ref: 4, What: api.What{Kind: api.Cell}}}}
	w, e := From(x)
	if e != api.OK || w.Able(2) != 3 || w.Base(1) != 4 || w.Able(1) != 1 {
		t.Error(e)
	}
}

// act does something to w by chance, allowed or not.
func act(r *rand.Rand, w *World) api.Errno {
	some := func() api.Ref { return api.Ref(r.Intn(int(w.last) + 2)) }
	x := api.What{Kind: api.Kind(r.Intn(18)), Home: api.Side(r.Intn(4)), Of: some(), By: some(), N: int64(r.Intn(5))}
	if f, _ := asked(x.Kind); r.Intn(4) > 0 {
		if f&hasOf == 0 || x.Kind == api.Switch {
			x.Of = 0
		}
		if f&hasBy == 0 {
			x.By = 0
		}
		if f&hasN == 0 {
			x.N = 0
		}
		if f&hasValue != 0 && x.Kind != api.Promise {
			x.Value = ref(some())
		}
	}
	var e api.Errno
	switch r.Intn(8) {
	case 0:
		e = w.CutEdge(r.Intn(5))
	case 1:
		_, e = w.Facet(some(), api.Able(r.Intn(64)))
	case 2:
		e = w.Drop(some(), some())
	case 3:
		y, _ := w.What(x.Of)
		y.N, y.Full = x.N, r.Intn(2) == 0
		e = w.Lay(x.Of, y)
	default:
		_, e = w.Make(x)
	}
	return e
}

func TestP7_7ThereAndBack(t *testing.T) {
	r := rand.New(rand.NewSource(1))
	for range 60 {
		w := made(t, 0, 0, 1)
		for range 120 {
			before := w.Copy()
			told := w.Tell()
			if e := act(r, w); e != api.OK && !reflect.DeepEqual(w.Tell(), told) {
				t.Fatal("a refused call changed something", e)
			}
			if !reflect.DeepEqual(before.Tell(), told) {
				t.Fatal("the copy sees it")
			}
		}
		v, e := From(w.Tell())
		if e != api.OK || !Same(v, w) || !reflect.DeepEqual(v.Tell(), w.Tell()) {
			t.Fatal(e)
		}
		for r := range w.Things() {
			if v.Able(r) != w.Able(r) || v.Base(r) != w.Base(r) || !slices.Equal(v.Way(r), w.Way(r)) {
				t.Fatal(r)
			}
		}
	}
}

func TestP7_8Facets(t *testing.T) {
	w := made(t)
	p := must(t, w, api.What{Kind: api.Purse, Of: must(t, w, api.What{Kind: api.Mint})})
	seen := map[api.Ref]int{}
	for set := api.Able(0); set < 64; set++ {
		a, e := w.Facet(p, set)
		b, f := w.Facet(p, set)
		if a != b || e != f {
			t.Error(set, a, b, e, f)
		}
		if e == api.OK {
			seen[a]++
			if w.Able(a) != set || w.Base(a) != p {
				t.Error(a, w.Able(a))
			}
			by := must(t, w, api.What{Kind: api.Tally})
			tap := must(t, w, api.What{Kind: api.Tap, Of: a, By: by})
			if w.Able(tap) != set || w.Base(tap) != p {
				t.Error(tap, w.Able(tap))
			}
		}
	}
	if len(seen) != 7 {
		t.Error(len(seen))
	}
}

func TestP7_9Tree(t *testing.T) {
	r := rand.New(rand.NewSource(2))
	for range 50 {
		var parents []api.Side
		for s := 1; s < 12; s++ {
			parents = append(parents, api.Side(r.Intn(s)))
		}
		w := made(t, parents...)
		c := must(t, w, api.What{Kind: api.Cell, Home: api.Side(r.Intn(12))})
		sw := must(t, w, api.What{Kind: api.Switch, Home: 5})
		g := must(t, w, api.What{Kind: api.Gate, Home: 5, Of: c, By: sw})
		for range 5 {
			edge := 1 + r.Intn(11)
			was := islands(w)
			cut := w.IsCut(edge)
			w.CutEdge(edge)
			if now := islands(w); now != was && cut || now != was+1 && !cut {
				t.Error("halves", was, now)
			}
			for a := api.Side(0); a < 12; a++ {
				for b := api.Side(0); b < 12; b++ {
					if w.Open(a, b) != w.Open(b, a) || !w.Open(a, a) {
						t.Error(a, b)
					}
					for d := api.Side(0); d < 12; d++ {
						if w.Open(a, b) && w.Open(b, d) && !w.Open(a, d) {
							t.Error(a, b, d)
						}
					}
				}
				if home, _ := w.Home(c); w.Free(a, g) == api.OK && !w.Open(a, home) {
					t.Error(a)
				}
			}
		}
	}
}

// islands counts the sides that are open to none before them.
func islands(w *World) int {
	n := 0
next:
	for a := range w.Sides() {
		for b := range a {
			if w.Open(api.Side(a), api.Side(b)) {
				continue next
			}
		}
		n++
	}
	return n
}

func TestOwnMemory(t *testing.T) {
	w, _ := full(t)
	x, y := w.Tell(), w.Tell()
	for i := range x.Things {
		for j := range x.Things[i].What.Values {
			x.Things[i].What.Values[j] = num(99)
		}
	}
	x.Parents[0], x.Made[0] = 9, 9
	if !reflect.DeepEqual(y, w.Tell()) || !value.Same(y.Things[1].What.Values[0], num(1)) {
		t.Error("shared")
	}
}
