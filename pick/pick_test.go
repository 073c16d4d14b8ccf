package pick

import (
	"math/rand"
	"reflect"
	"slices"
	"strings"
	"testing"

	"postern/api"
	"postern/lang"
	"postern/run"
	"postern/value"
	"postern/world"
)

func num(n int64) api.Value         { return api.Value{Kind: api.Number, N: n} }
func ref(r api.Ref) api.Value       { return api.Value{Kind: api.Reference, R: r} }
func list(l ...api.Value) api.Value { return api.Value{Kind: api.List, L: l} }
func who(l ...int) []api.Turn {
	var out []api.Turn
	for _, n := range l {
		out = append(out, api.Turn{Who: n})
	}
	return out
}

// subject makes a subject of code and of names, each a name and a thing.
func subject(t *testing.T, w *world.World, side api.Side, s string, l ...any) api.Subject {
	t.Helper()
	c, at, e := lang.Read(s)
	if e != api.OK {
		t.Fatal(s, at, e)
	}
	var names []api.Name
	for i := 0; i < len(l); i += 2 {
		names = append(names, api.Name{Name: l[i].(string), Value: ref(l[i+1].(api.Ref))})
	}
	x, e := run.New(w, side, c, names)
	if e != api.OK {
		t.Fatal(s, e)
	}
	return x
}

func play(t *testing.T, w *world.World, l ...api.Subject) *Play {
	t.Helper()
	p, e := New(w, l...)
	if e != api.OK {
		t.Fatal(e)
	}
	return p
}

// chapter is the Play of the chapter's examples: a queue, two subjects.
func chapter(t *testing.T) *Play {
	t.Helper()
	w, _ := world.New()
	q, _ := w.Make(api.What{Kind: api.Queue})
	return play(t, w, subject(t, w, 0, "x = give q 1 ; x = give q 2", "q", q), subject(t, w, 0, "y = take q 1 ; y = take q 1", "q", q))
}

func lines(t *testing.T, p *Play, n int) string {
	t.Helper()
	l, e := p.Lines(n)
	if e != api.OK {
		t.Fatal(e)
	}
	return strings.Join(l, "; ")
}

func TestNilPlays(t *testing.T) {
	q := chapter(t)
	for _, p := range []*Play{nil, {}} {
		_, told, e1 := p.Turn(api.Turn{Who: 99})
		_, e2 := p.Do(who(99)...)
		_, e3 := p.Rounds(-1)
		_, e4 := p.Begin()
		_, e5 := p.Lines(99)
		_, e6 := p.Told(99)
		_, _, e7 := Again(p)
		for i, e := range []api.Errno{e1, e2, e3, e4, e5, e6, e7} {
			if e != api.ErrNil {
				t.Error(i, e)
			}
		}
		if told || p.World() != nil || p.Subjects() != nil || p.Len() != 0 || p.Ready() != nil || p.History() != nil || p.Copy() != nil || Same(p, p) || Same(p, q) || Same(q, p) {
			t.Error("something is there")
		}
		for i := range p.Each() {
			t.Error(i)
		}
	}
	for _, w := range []*world.World{nil, {}} {
		if p, e := New(w, make([]api.Subject, 40)...); p != nil || e != api.ErrNil {
			t.Error(e)
		}
	}
}

func TestP20_1New(t *testing.T) {
	w, _ := world.New(0)
	c, _ := w.Make(api.What{Kind: api.Cell})
	s := subject(t, w, 1, "x = put c 1 ; y = 2", "c", c)
	l := []api.Subject{s, s}
	p := play(t, w, l...)
	l[0].Names = nil
	l[1].Code[0].Name = "z"
	w.CutEdge(1)
	w.Make(api.What{Kind: api.Cell})
	if p.World().IsCut(1) || p.World().Len() != 1 || p.Len() != 0 || len(p.Subjects()[0].Names) != 1 || p.Subjects()[1].Code[0].Name != "x" {
		t.Error("what becomes of what was handed in is seen")
	}
	p.World().CutEdge(1)
	p.Subjects()[0].Code[0].Name = "q"
	p.Subjects()[0].Names[0].Name = "q"
	p.Subjects()[0].Seen[0] = 9
	if p.World().IsCut(1) || !sameSubject(p.Subjects()[0], p.Subjects()[1]) {
		t.Error("what becomes of answers is seen")
	}
	if !slices.Equal(p.Ready(), []int{0, 1}) {
		t.Error(p.Ready())
	}
	bad := s
	bad.Side = 7
	if p, e := New(w, s, bad); p != nil || e != api.ErrSubject {
		t.Error(e)
	}
	if p, e := New(w, slices.Repeat([]api.Subject{bad}, 33)...); p != nil || e != api.ErrLong {
		t.Error(e)
	}
	if p, e := New(w, make([]api.Subject, 32)...); p == nil || e != api.OK {
		t.Error(e)
	}
	if p := play(t, w); p.Ready() != nil || p.Subjects() != nil {
		t.Error("nobody")
	}
}

func TestP20_2Turns(t *testing.T) {
	p := chapter(t)
	if !slices.Equal(p.Ready(), []int{0, 1}) {
		t.Error(p.Ready())
	}
	if n, e := p.Do(who(0, 1, 1)...); n != 3 || e != api.OK || lines(t, p, 0) != "x = _" || lines(t, p, 1) != "y = [1]; fault 81" {
		t.Error(n, e, lines(t, p, 0), lines(t, p, 1))
	}
	if n, e := p.Do(who(0, 0)...); n != 1 || e != api.OK || p.Len() != 4 || p.Ready() != nil {
		t.Error(n, e, p.Len(), p.Ready())
	}
	before := p.Copy()
	for _, x := range []api.Turn{{Who: 2}, {Who: -1}, {Edge: 1}, {Edge: -1}, {Who: 1, Edge: 1}, {Edge: 1 << 40}} {
		if d, told, e := p.Turn(x); told || e != api.ErrArg || !reflect.DeepEqual(d, api.Done{}) {
			t.Error(x, d, told, e)
		}
		if n, e := p.Do(api.Turn{Who: 0}, x); n != 0 || e != api.ErrArg {
			t.Error(x, n, e)
		}
	}
	if n, e := p.Rounds(-1); n != 0 || e != api.ErrArg {
		t.Error(n, e)
	}
	if d, told, e := p.Turn(api.Turn{Who: 0}); told || e != api.OK || !reflect.DeepEqual(d, api.Done{}) || !Same(p, before) {
		t.Error(d, told, e)
	}
	if n, e := p.Do(slices.Repeat(who(99), api.MaxTurns+1)...); n != 0 || e != api.ErrLong {
		t.Error(n, e)
	}
	if n, e := p.Do(slices.Repeat(who(1), api.MaxTurns)...); n != 0 || e != api.OK {
		t.Error(n, e)
	}
	w, _ := world.New(0, 0)
	c, _ := w.Make(api.What{Kind: api.Cell, Home: 1})
	q := play(t, w, subject(t, w, 0, "x = get c ; y = get c", "c", c))
	if n, e := q.Do(api.Turn{Who: 0}, api.Turn{Edge: 1}, api.Turn{Edge: 1}, api.Turn{Who: 0}); n != 3 || e != api.OK || lines(t, q, 0) != "x = _; fault 7" || !q.World().IsCut(1) || q.World().IsCut(2) {
		t.Error(n, e, lines(t, q, 0))
	}
	if h := q.History(); !reflect.DeepEqual(h[1], api.Done{Turn: api.Turn{Edge: 1}}) {
		t.Error(h)
	}
	if d, told, e := q.Turn(api.Turn{Who: 1, Edge: 2}); told || e != api.ErrArg || !reflect.DeepEqual(d, api.Done{}) {
		t.Error(d, told, e)
	}
}

func TestP20_2Rounds(t *testing.T) {
	w, _ := world.New()
	c, _ := w.Make(api.What{Kind: api.Cell})
	mk := func() *Play {
		return play(t, w, subject(t, w, 0, "x = 1 ; x = 2", "c", c), subject(t, w, 0, "x = 3"), subject(t, w, 0, "x = 4 ; x = 5 ; x = 6"))
	}
	order := func(p *Play) []int {
		var l []int
		for _, d := range p.History() {
			l = append(l, d.Turn.Who)
		}
		return l
	}
	for most, want := range map[int][]int{0: nil, 1: {0}, 4: {0, 1, 2, 0}, 6: {0, 1, 2, 0, 2, 2}, 99: {0, 1, 2, 0, 2, 2}} {
		p := mk()
		if n, e := p.Rounds(most); n != len(want) || e != api.OK || !slices.Equal(order(p), want) {
			t.Error(most, n, e, order(p))
		}
	}
	p := mk()
	p.Rounds(2)
	p.Rounds(2)
	if !slices.Equal(order(p), []int{0, 1, 0, 2}) {
		t.Error(order(p))
	}
}

func TestP20_3History(t *testing.T) {
	p := chapter(t)
	begin := p.Copy()
	p.Do(who(0, 1)...)
	h := p.History()
	if len(h) != 2 || h[1].Turn.Who != 1 || !value.Same(h[1].Line.Value, list(num(1))) || len(h[1].Deeds) != 1 || !value.Same(h[1].Deeds[0].Answer, list(num(1))) {
		t.Fatal(h)
	}
	h[1].Line.Value.L[0], h[1].Deeds[0].Answer.L[0] = num(9), num(8)
	h[0].Deeds[0].On = 77
	all := p.Each()
	p.Turn(api.Turn{Who: 0})
	n := 0
	for i, d := range all {
		if i != n || d.Turn.Who != []int{0, 1, 0}[i] || i == 1 && !value.Same(d.Line.Value, list(num(1))) {
			t.Error(i, d)
		}
		n++
		d.Deeds[0].On = 55
		p.Turn(api.Turn{Who: 1})
	}
	if n != 3 || p.Len() != 4 || p.History()[0].Deeds[0].On != 1 {
		t.Error(n, p.Len())
	}
	for range all {
		break
	}
	told, e := p.Told(1)
	if e != api.OK || len(told) != 2 || told[1].Op != api.Act {
		t.Error(told, e)
	}
	told[0].Value.L[0] = num(4)
	if again, _ := p.Told(1); !value.Same(again[0].Value, list(num(1))) {
		t.Error("shared")
	}
	for _, n := range []int{2, -1} {
		l, e1 := p.Told(n)
		s, e2 := p.Lines(n)
		if l != nil || s != nil || e1 != api.ErrArg || e2 != api.ErrArg {
			t.Error(n, e1, e2)
		}
	}
	b, e := p.Begin()
	if e != api.OK || !Same(b, begin) || b.Len() != 0 {
		t.Error(e)
	}
	b.Rounds(9)
	if c, _ := p.Begin(); !Same(c, begin) {
		t.Error("the beginning was written")
	}
	if d, _, _ := chapter(t).Turn(api.Turn{Who: 0}); d.Line.Op != api.Act || len(d.Deeds) != 1 {
		t.Error(d)
	}
}

func TestP20_4CopyAgain(t *testing.T) {
	p := chapter(t)
	p.Do(who(0)...)
	c, d := p.Copy(), p.Copy()
	p.Do(who(1)...)
	c.Do(who(0, 1)...)
	if !Same(d, d.Copy()) || Same(p, c) || p.Len() != 2 || c.Len() != 3 || d.Len() != 1 || lines(t, p, 1) != "y = [1]" || lines(t, d, 1) != "" {
		t.Error("copies share")
	}
	p.Do(who(1, 0)...)
	begin, _ := p.Begin()
	h := p.History()
	q, n, e := Again(begin, h...)
	if e != api.OK || n != 4 || !Same(q, p) {
		t.Error(n, e)
	}
	for i, turn := range []func(h []api.Done){func(h []api.Done) { h[2].Line.Code = 9 }, func(h []api.Done) { h[1].Deeds[0].With = num(9) }, func(h []api.Done) { h[3].Turn.Who = 7 }, func(h []api.Done) { h[0].Turn.Edge = 1 }, func(h []api.Done) { h[3] = h[0] }, func(h []api.Done) { h[1].Deeds = nil },
		func(h []api.Done) { h[1].Line.Value = api.Value{N: 1} }, func(h []api.Done) { h[1].Deeds[0].Made = []api.Ref{1} }, func(h []api.Done) { h[1].Line.Other = num(1) }, func(h []api.Done) { h[1].Deeds[0].Names = make([]api.Name, 1) }} {
		h := p.History()
		turn(h)
		at := []int{2, 1, 3, 0, 3, 1, 1, 1, 1, 1}[i]
		if q, n, e := Again(begin, h...); q != nil || n != at || e != api.ErrTale {
			t.Error(i, n, e)
		}
	}
	if q, n, e := Again(begin); !Same(q, begin) || n != 0 || e != api.OK {
		t.Error(n, e)
	}
	if begin.Len() != 0 {
		t.Error("begin was written")
	}
	half, _, _ := Again(begin, h[:2]...)
	if q, n, e := Again(half, h[2:]...); !Same(q, p) || n != 2 || e != api.OK {
		t.Error(n, e)
	}
}

// random makes a Play of subjects that do this and that.
func random(t *testing.T, r *rand.Rand) *Play {
	t.Helper()
	w, _ := world.New(0, 0)
	for _, x := range []api.What{{Kind: api.Cell}, {Kind: api.Queue, Home: 1}, {Kind: api.Promise}, {Kind: api.Keeper, Of: 3}, {Kind: api.Log, Home: 2}} {
		w.Make(x)
	}
	texts := []string{"x = get a", "x = put a b", "x = give a x", "y = take a 1", "z = part y 0", "v = await p", "x = give k 5", "l = make log", "g h = make gate a", "x = cut h", "s o = make seal", "m = ask s x", "x = ask o m", "reply [ a b x ]", "if same a b { x = 1 } else { b = a }", "k = make clerk [ a ] { x = get a ; reply x }", "x = ask k 1", "fail"}
	var l []api.Subject
	for range 3 {
		var c []string
		for range 12 {
			c = append(c, texts[r.Intn(len(texts))])
		}
		l = append(l, subject(t, w, api.Side(r.Intn(3)), strings.Join(c, " ; "), "a", api.Ref(1+r.Intn(5)), "b", api.Ref(1+r.Intn(5)), "p", api.Ref(3), "k", api.Ref(4)))
	}
	return play(t, w, l...)
}

func schedule(r *rand.Rand, n int) []api.Turn {
	var l []api.Turn
	for range n {
		if r.Intn(15) == 0 {
			l = append(l, api.Turn{Edge: 1 + r.Intn(2)})
		} else {
			l = append(l, api.Turn{Who: r.Intn(3)})
		}
	}
	return l
}

func TestP20_5WhoseTurn(t *testing.T) {
	r := rand.New(rand.NewSource(1))
	for range 60 {
		p := random(t, r)
		whole, halves := p.Copy(), p.Copy()
		l := schedule(r, 40)
		var told []api.Turn
		for _, x := range l {
			before := p.Copy()
			ready := slices.Contains(p.Ready(), x.Who)
			_, went, _ := p.Turn(x)
			if went {
				told = append(told, x)
			} else if !Same(p, before) {
				t.Error("what is passed over changed something")
			}
			if x.Edge == 0 && went != ready {
				t.Error("ready", x, went)
			}
			for i, s := range p.Subjects() {
				if (x.Edge != 0 || i != x.Who) && !sameSubject(s, before.Subjects()[i]) {
					t.Error("another subject is changed", x, i)
				}
			}
		}
		n, _ := whole.Do(l...)
		a, _ := halves.Do(l[:17]...)
		b, _ := halves.Do(l[17:]...)
		begin, _ := p.Begin()
		begin.Do(told...)
		if !Same(whole, p) || !Same(halves, p) || !Same(begin, p) || n != len(told) || a+b != n {
			t.Error("another way")
		}
		q := random(t, r)
		c := q.Copy()
		q.Rounds(30)
		var turns []api.Turn
		for _, d := range q.History() {
			turns = append(turns, d.Turn)
		}
		c.Do(turns...)
		if !Same(q, c) {
			t.Error("rounds")
		}
	}
}

func TestP20_6OnceMore(t *testing.T) {
	r := rand.New(rand.NewSource(2))
	for range 40 {
		p := random(t, r)
		var stood []*Play
		for _, x := range schedule(r, 30) {
			if _, told, _ := p.Turn(x); told {
				stood = append(stood, p.Copy())
			}
		}
		begin, _ := p.Begin()
		h := p.History()
		for i, was := range stood {
			if q, n, e := Again(begin, h[:i+1]...); e != api.OK || n != i+1 || !Same(q, was) {
				t.Error(i, n, e)
			}
		}
	}
}

func TestP20_7Waiting(t *testing.T) {
	w, _ := world.New(0)
	w.Make(api.What{Kind: api.Promise, Home: 1})
	w.Make(api.What{Kind: api.Keeper, Home: 1, Of: 1})
	mk := func() *Play {
		return play(t, w, subject(t, w, 0, "x = 1 ; x = give k 5", "k", api.Ref(2)), subject(t, w, 0, "y = await p", "p", api.Ref(1)))
	}
	p := mk()
	if !slices.Equal(p.Ready(), []int{0}) {
		t.Error(p.Ready())
	}
	if n, _ := p.Do(who(1, 0, 1)...); n != 1 || !slices.Equal(p.Ready(), []int{0}) {
		t.Error(n, p.Ready())
	}
	p.Do(who(0)...)
	if !slices.Equal(p.Ready(), []int{1}) {
		t.Error(p.Ready())
	}
	if p.Do(who(1)...); lines(t, p, 1) != "y = 5" {
		t.Error(lines(t, p, 1))
	}
	p = mk()
	p.Turn(api.Turn{Edge: 1})
	if !slices.Equal(p.Ready(), []int{0, 1}) {
		t.Error(p.Ready())
	}
	if p.Do(who(1)...); lines(t, p, 1) != "fault 7" {
		t.Error(lines(t, p, 1))
	}
}

func TestP20_8Held(t *testing.T) {
	r := rand.New(rand.NewSource(3))
	held := func(s api.Subject) (l []api.Ref) {
		for _, n := range s.Names {
			l = append(l, value.Refs(n.Value)...)
		}
		return l
	}
	for range 60 {
		p := random(t, r)
		for _, x := range schedule(r, 30) {
			before := p.Subjects()
			d, _, _ := p.Turn(x)
			w := p.World()
			for i, s := range p.Subjects() {
				if e := run.Check(w, s); e != api.OK {
					t.Fatal(e)
				}
				for _, q := range held(s) {
					line := append(value.Refs(d.Line.Value), value.Refs(d.Line.Other)...)
					if !slices.Contains(held(before[i]), q) && !(i == x.Who && slices.Contains(line, q)) {
						t.Error("out of nothing", q)
					}
				}
			}
		}
	}
}
