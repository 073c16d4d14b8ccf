package twin

import (
	"math/rand"
	"slices"
	"strings"
	"testing"

	"postern/api"
	"postern/lang"
	"postern/pick"
	"postern/run"
	"postern/world"
)

func ref(r api.Ref) api.Value { return api.Value{Kind: api.Reference, R: r} }
func sides(l ...api.Side) []api.Side {
	return l
}
func turns(l ...int) []api.Turn {
	var out []api.Turn
	for _, n := range l {
		out = append(out, api.Turn{Who: n})
	}
	return out
}
func edge(n int) api.Turn { return api.Turn{Edge: n} }

func who(t *testing.T, w *world.World, side api.Side, s string, l ...any) api.Subject {
	t.Helper()
	c, at, e := lang.Read(s)
	if e != api.OK {
		t.Fatal(s, at, e)
	}
	var names []api.Name
	for i := 0; i < len(l); i += 2 {
		names = append(names, api.Name{Name: l[i].(string), Value: ref(l[i+1].(api.Ref))})
	}
	x, e := run.New(w, side, c, names)
	if e != api.OK {
		t.Fatal(s, e)
	}
	return x
}

func play(t *testing.T, w *world.World, l ...api.Subject) *pick.Play {
	t.Helper()
	p, e := pick.New(w, l...)
	if e != api.OK {
		t.Fatal(e)
	}
	return p
}

// chapter is the Play of the chapter's examples.
func chapter(t *testing.T) *pick.Play {
	t.Helper()
	w, _ := world.New(0)
	w.Make(api.What{Kind: api.Log, Home: 1})
	return play(t, w, who(t, w, 0, "x = give l 1 ; x = get l", "l", api.Ref(1)), who(t, w, 1, "y = get l ; y = get l", "l", api.Ref(1)))
}

func alike(t *testing.T, who, at int, same bool, e api.Errno, ww, wa int, ws bool, we api.Errno) {
	t.Helper()
	if who != ww || at != wa || same != ws || e != we {
		t.Error("got", who, at, same, e, "wanted", ww, wa, ws, we)
	}
}

func TestNilPlays(t *testing.T) {
	q := chapter(t)
	for _, p := range []*pick.Play{nil, {}} {
		a, e1 := Joined(p)
		b, e2 := Quiet(p, 9, 9)
		c, e3 := Turns(p, 9, 9)
		if a != nil || b != nil || c != nil || e1 != api.ErrNil || e2 != api.ErrNil || e3 != api.ErrNil {
			t.Error(e1, e2, e3)
		}
		for _, x := range [][2]*pick.Play{{p, q}, {q, p}, {p, p}} {
			n, at, same, e := Alike(x[0], x[1], edge(9))
			alike(t, n, at, same, e, 0, 0, false, api.ErrNil)
		}
		n, at, same, e := Parted(p, 9, 9, edge(9))
		alike(t, n, at, same, e, 0, 0, false, api.ErrNil)
	}
	for _, w := range []*world.World{nil, {}} {
		if l, e := Half(w, 9, 9); l != nil || e != api.ErrNil {
			t.Error(l, e)
		}
	}
}

func TestP26_1Joined(t *testing.T) {
	w, _ := world.New(0, 1)
	for _, x := range []api.What{{Kind: api.Cell, Home: 1}, {Kind: api.Switch, Home: 2}, {Kind: api.Gate, Home: 2, Of: 1, By: 2}, {Kind: api.Log}} {
		w.Make(x)
	}
	w.Facet(3, api.Get)
	w.Drop(4)
	p := play(t, w, who(t, w, 2, "x = get g", "g", api.Ref(3)), who(t, w, 1, ""))
	p.Turn(turns(0)[0])
	before := p.Copy()
	j, e := Joined(p)
	if e != api.OK || !pick.Same(p, before) {
		t.Fatal(e)
	}
	x, y := p.World().Tell(), j.World().Tell()
	if len(y.Parents) != 0 || y.Last != x.Last || !slices.Equal(y.Made, []int{4}) || len(y.Things) != len(x.Things) || j.Len() != 0 {
		t.Error(y)
	}
	for i, z := range y.Things {
		if z.Ref != x.Things[i].Ref || z.What.Kind != x.Things[i].What.Kind || z.What.Of != x.Things[i].What.Of || z.What.Home != 0 {
			t.Error(z)
		}
	}
	a, b := p.Subjects(), j.Subjects()
	for i := range a {
		if b[i].Side != 0 || len(b[i].Code) != len(a[i].Code) || len(b[i].Names) != len(a[i].Names) || !slices.Equal(b[i].Seen, a[i].Seen) {
			t.Error(b[i])
		}
	}
	p.Turn(edge(2))
	if j, e := Joined(p); j != nil || e != api.ErrTwin {
		t.Error(e)
	}
	v, _ := world.New(0)
	for i := range api.MaxThings {
		v.Make(api.What{Kind: api.Log, Home: api.Side(i % 2)})
	}
	if _, e := Joined(play(t, v)); e != api.OK {
		t.Error(e)
	}
	v.Make(api.What{Kind: api.Log})
	if j, e := Joined(play(t, v)); j != nil || e != api.ErrTwin {
		t.Error(e)
	}
}

func TestP26_1Halves(t *testing.T) {
	w, _ := world.New(0, 0, 1)
	for _, c := range []struct {
		edge int
		side api.Side
		want []api.Side
		e    api.Errno
	}{{1, 1, sides(1, 3), 0}, {1, 3, sides(1, 3), 0}, {1, 0, sides(0, 2), 0}, {1, 2, sides(0, 2), 0}, {3, 3, sides(3), 0}, {3, 1, sides(0, 1, 2), 0}, {2, 2, sides(2), 0}, {0, 1, nil, api.ErrArg}, {4, 1, nil, api.ErrArg}, {-1, 1, nil, api.ErrArg}, {1, 4, nil, api.ErrArg}, {1, -1, nil, api.ErrArg}} {
		if l, e := Half(w, c.edge, c.side); !slices.Equal(l, c.want) || e != c.e {
			t.Error(c, l, e)
		}
	}
	p := chapter(t)
	p.Turn(turns(0)[0])
	before := p.Copy()
	for _, c := range []struct {
		side  api.Side
		ready []int
		turns []api.Turn
	}{{1, []int{1}, []api.Turn{{Who: 1}, {Edge: 1}, {Who: 1}}}, {0, []int{0}, []api.Turn{{Who: 0}, {Edge: 1}}}} {
		q, e := Quiet(p, 1, c.side)
		if e != api.OK || !slices.Equal(q.Ready(), c.ready) || !q.World().IsCut(1) || q.Len() != 0 || len(q.Subjects()[0].Names) != 2 {
			t.Error(c, q.Ready(), e)
		}
		l, e := Turns(p, 1, c.side, api.Turn{Who: 1}, api.Turn{Who: 0}, edge(1), api.Turn{Who: 1})
		if !slices.Equal(l, c.turns) || e != api.OK {
			t.Error(c, l, e)
		}
	}
	if !pick.Same(p, before) {
		t.Error("p was written")
	}
	for i, c := range []struct {
		edge int
		side api.Side
		l    []api.Turn
	}{{2, 0, nil}, {0, 0, nil}, {1, 2, nil}, {1, -1, nil}, {1, 0, turns(2)}, {1, 0, turns(-1)}, {1, 0, []api.Turn{edge(2)}}, {1, 0, []api.Turn{edge(-1)}}, {1, 0, []api.Turn{{Who: 1, Edge: 1}}}} {
		l, e1 := Turns(p, c.edge, c.side, c.l...)
		q, e2 := Quiet(p, c.edge, c.side)
		n, at, same, e3 := Parted(p, c.edge, c.side, c.l...)
		if l != nil || e1 != api.ErrArg || i < 4 && (q != nil || e2 != api.ErrArg) {
			t.Error(i, l, e1, e2)
		}
		alike(t, n, at, same, e3, 0, 0, false, api.ErrArg)
	}
}

func TestP26_2Alike(t *testing.T) {
	p := chapter(t)
	j, _ := Joined(p)
	n, at, same, e := Alike(p, j, turns(0, 1, 0, 1)...)
	alike(t, n, at, same, e, 0, 0, true, 0)
	n, at, same, e = Alike(p, j, append(turns(0), append([]api.Turn{edge(1)}, turns(1, 1, 0)...)...)...)
	alike(t, n, at, same, e, 0, 1, false, 0)
	n, at, same, e = Alike(j, p, turns(0, 1)...)
	alike(t, n, at, same, e, 0, 0, true, 0)
	n, at, same, e = Alike(j, p, edge(1))
	alike(t, n, at, same, e, 0, 0, false, api.ErrArg)
	ahead := p.Copy()
	ahead.Do(turns(0)...)
	n, at, same, e = Alike(p, ahead, turns(1, 0, 0, 1)...)
	alike(t, n, at, same, e, 0, 0, false, 0)
	n, at, same, e = Alike(p, ahead, turns(1)...)
	alike(t, n, at, same, e, 1, 0, false, 0)
	ahead.Do(turns(0)...)
	n, at, same, e = Alike(ahead, p, turns(0)...)
	alike(t, n, at, same, e, 0, 0, false, 0)
	w := p.World()
	one := play(t, w, who(t, w, 0, ""))
	n, at, same, e = Alike(p, one)
	alike(t, n, at, same, e, 0, 0, false, api.ErrArg)
	many := slices.Repeat(turns(0), api.MaxTurns+1)
	n, at, same, e = Alike(p, j, many...)
	alike(t, n, at, same, e, 0, 0, false, api.ErrLong)
	n, at, same, e = Alike(p, j, append(many, edge(2))...)
	alike(t, n, at, same, e, 0, 0, false, api.ErrArg)
	n, at, same, e = Alike(p, j, many[:api.MaxTurns]...)
	alike(t, n, at, same, e, 0, 0, true, 0)
	if p.Len() != 0 || j.Len() != 0 {
		t.Error("they were written")
	}
}

func TestP26_2Parted(t *testing.T) {
	p := chapter(t)
	n, at, same, e := Parted(p, 1, 1, turns(0, 1, 0, 1)...)
	alike(t, n, at, same, e, 0, 0, true, 0)
	n, at, same, e = Parted(p, 1, 0, turns(0, 1, 0, 1)...)
	alike(t, n, at, same, e, 0, 0, true, 0)
	n, at, same, e = Parted(p, 1, 1, slices.Repeat(turns(0), api.MaxTurns+1)...)
	alike(t, n, at, same, e, 0, 0, false, api.ErrLong)
	n, at, same, e = Parted(p, 1, 1, append(slices.Repeat(turns(0), api.MaxTurns), turns(7)...)...)
	alike(t, n, at, same, e, 0, 0, false, api.ErrArg)
	if p.Len() != 0 || p.World().IsCut(1) {
		t.Error("p was written")
	}
	// Where the edge is not cut, what the other half does is told.
	q, _ := Quiet(p, 1, 1)
	n, at, same, e = Alike(p, q, turns(0, 1)...)
	alike(t, n, at, same, e, 0, 0, false, 0)
}

// random makes a Play on four sides.
func random(t *testing.T, r *rand.Rand) *pick.Play {
	t.Helper()
	w, _ := world.New(0, 0, 1)
	some := func() api.Ref { return api.Ref(1 + r.Intn(w.Len())) }
	w.Make(api.What{Kind: api.Cell, Home: 3})
	for range 8 {
		x := api.What{Kind: []api.Kind{api.Cell, api.Log, api.Queue, api.Tally, api.Promise, api.Mint, api.Clerk, api.Gate}[r.Intn(8)], Home: api.Side(r.Intn(4))}
		switch x.Kind {
		case api.Promise, api.Mint:
			p, _ := w.Make(x)
			x.Kind, x.Of = map[api.Kind]api.Kind{api.Mint: api.Purse, api.Promise: api.Keeper}[x.Kind], p
		case api.Clerk:
			x.Code, _, _ = lang.Read("x = get a ; reply [ x it ]")
			x.Names = []api.Name{{Name: "a", Value: ref(some())}}
		case api.Gate:
			s, _ := w.Make(api.What{Kind: api.Switch, Home: x.Home})
			x.Of, x.By = some(), s
		}
		w.Make(x)
	}
	do := []string{"x = get a", "x = put a b", "x = give a b", "y = take a 1", "z = part x 0", "x = ask a b", "s o = make seal", "x = ask s b", "a = x", "b = z", "l = make log", "g h = make gate a", "x = cut b", "v = await a", "x = give b 1", "reply [ a b x ]", "t u = make tap a", "p k = make promise"}
	var l []api.Subject
	for range 4 {
		var c []string
		for range 12 {
			c = append(c, do[r.Intn(len(do))])
		}
		l = append(l, who(t, w, api.Side(r.Intn(4)), strings.Join(c, " ; "), "a", some(), "b", some()))
	}
	return play(t, w, l...)
}

func schedule(r *rand.Rand, cuts bool) []api.Turn {
	var l []api.Turn
	for range 40 {
		if cuts && r.Intn(8) == 0 {
			l = append(l, edge(1+r.Intn(3)))
		} else {
			l = append(l, api.Turn{Who: r.Intn(4)})
		}
	}
	return l
}

func TestP26_3SeenByNobody(t *testing.T) {
	r := rand.New(rand.NewSource(1))
	for range 120 {
		p := random(t, r)
		p.Do(schedule(r, false)[:10]...)
		j, e := Joined(p)
		if e != api.OK {
			t.Fatal(e)
		}
		n, at, same, e := Alike(p, j, schedule(r, false)...)
		alike(t, n, at, same, e, 0, 0, true, 0)
	}
}

func TestP26_4BehindACut(t *testing.T) {
	r := rand.New(rand.NewSource(2))
	for range 150 {
		p := random(t, r)
		p.Do(schedule(r, true)[:15]...)
		n, at, same, e := Parted(p, 1+r.Intn(3), api.Side(r.Intn(4)), schedule(r, true)...)
		alike(t, n, at, same, e, 0, 0, true, 0)
	}
}

func TestP26_5Twice(t *testing.T) {
	r := rand.New(rand.NewSource(3))
	for range 20 {
		p := random(t, r)
		j, _ := Joined(p)
		k, e := Joined(j)
		if e != api.OK || !pick.Same(j, k) {
			t.Error(e)
		}
		w := p.World()
		for n := 1; n < 4; n++ {
			a, _ := Half(w, n, api.Side(n))
			b, _ := Half(w, n, 0)
			all := append(slices.Clone(a), b...)
			slices.Sort(all)
			if !slices.Equal(all, sides(0, 1, 2, 3)) {
				t.Error(a, b)
			}
			q, _ := Quiet(p, n, a[0])
			q, _ = Quiet(q, n, b[0])
			for _, s := range q.Subjects() {
				if len(s.Code) != 0 {
					t.Error("somebody has code")
				}
			}
		}
	}
}
