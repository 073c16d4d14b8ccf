package gate

import (
	"math/bits"
	"math/rand"
	"slices"
	"testing"

	"postern/api"
	"postern/value"
	"postern/world"
)

func num(n int64) api.Value       { return api.Value{Kind: api.Number, N: n} }
func ref(r api.Ref) api.Value     { return api.Value{Kind: api.Reference, R: r} }
func refs(l ...api.Ref) []api.Ref { return l }

var none = api.Value{}

// lay is the world of the chapter's examples: a cell 1, the gates 3, 5, 7 with the switches 2, 4, 6.
func lay(t *testing.T) *world.World {
	t.Helper()
	w, _ := world.New()
	w.Make(api.What{Kind: api.Cell})
	for i, target := range refs(1, 3, 1) {
		if g, s, e := New(w, 0, target); g != api.Ref(3+2*i) || s != g-1 || e != api.OK {
			t.Fatal(g, s, e)
		}
	}
	return w
}

func want(t *testing.T, l []api.Ref, e api.Errno, wl []api.Ref, we api.Errno) {
	t.Helper()
	if !slices.Equal(l, wl) || e != we || e != api.OK && l != nil {
		t.Error("got", l, e, "wanted", wl, we)
	}
}

func TestNilWorlds(t *testing.T) {
	for _, w := range []*world.World{nil, {}} {
		_, _, e1 := New(w, 9, 0)
		_, e2 := IsCut(w, 0)
		_, e3 := Do(w, 0, 3, ref(0))
		_, e4 := Of(w, 0)
		_, e5 := Gates(w, 0)
		_, e6 := Behind(w, 0)
		_, e7 := Stop(w, nil, nil)
		for i, e := range []api.Errno{e1, e2, e3, e4, e5, e6, e7, Cut(w, 0)} {
			if e != api.ErrNil {
				t.Error(i, e)
			}
		}
		if g, shut := First(w, 1); g != 0 || shut {
			t.Error(g)
		}
		for r := range Shut(w) {
			t.Error(r)
		}
	}
}

func TestP12_1New(t *testing.T) {
	w, _ := world.New(0)
	w.Make(api.What{Kind: api.Cell})
	g, s, e := New(w, 1, 1)
	if g != 3 || s != 2 || e != api.OK {
		t.Fatal(g, s, e)
	}
	x, _ := w.What(g)
	y, _ := w.What(s)
	if x.Kind != api.Gate || x.Of != 1 || x.By != s || x.Home != 1 || y.Kind != api.Switch || y.Of != g || y.Full || y.Home != 1 {
		t.Error(x, y)
	}
	for w.Made(1) < api.MaxThings-1 {
		w.Make(api.What{Kind: api.Log, Home: 1})
	}
	before := w.Copy()
	for _, c := range []struct {
		home   api.Side
		target api.Ref
		e      api.Errno
	}{{2, 9999, api.ErrArg}, {-1, 1, api.ErrArg}, {1, 9999, api.ErrRef}, {1, 0, api.ErrRef}, {1, 1, api.ErrLimit}} {
		if g, s, e := New(w, c.home, c.target); g != 0 || s != 0 || e != c.e || !world.Same(w, before) {
			t.Error(c, g, s, e)
		}
	}
}

func TestP12_2Cut(t *testing.T) {
	w := lay(t)
	is := func(r api.Ref, want bool, we api.Errno) {
		t.Helper()
		if got, e := IsCut(w, r); got != want || e != we {
			t.Error(r, got, e)
		}
	}
	is(3, false, 0)
	for range 2 {
		if e := Cut(w, 2); e != api.OK {
			t.Error(e)
		}
	}
	is(3, true, 0)
	is(2, true, 0)
	is(5, false, 0)
	is(4, false, 0)
	is(1, false, api.ErrGate)
	is(99, false, api.ErrRef)
	if Cut(w, 3) != api.ErrGate || Cut(w, 99) != api.ErrRef || Cut(w, 1) != api.ErrGate {
		t.Error("no switch")
	}
	for r, o := range map[api.Ref]api.Ref{2: 3, 3: 2, 5: 4, 4: 5} {
		if got, e := Of(w, r); got != o || e != api.OK {
			t.Error(r, got, e)
		}
	}
	for r, we := range map[api.Ref]api.Errno{1: api.ErrGate, 99: api.ErrRef} {
		if got, e := Of(w, r); got != 0 || e != we {
			t.Error(r, got, e)
		}
	}
	w.Drop(7)
	if got, e := Of(w, 6); got != 0 || e != api.OK {
		t.Error("swept", got, e)
	}
}

func TestP12_3Do(t *testing.T) {
	w := lay(t)
	for i, c := range []struct {
		r    api.Ref
		able api.Able
		v    api.Value
		want api.Value
		e    api.Errno
	}{{4, api.Get, none, num(0), 0}, {4, api.Cut, num(1), none, api.ErrArg}, {4, api.Get, num(1), none, api.ErrArg}, {4, api.Cut, none, none, 0}, {4, api.Get, none, num(1), 0}, {4, api.Cut, none, none, 0}, {4, api.Get, none, num(1), 0},
		{4, api.Put, num(1), none, api.ErrUnable}, {4, api.Take, num(1), none, api.ErrUnable}, {4, api.Give, none, none, api.ErrUnable}, {4, api.Ask, none, none, api.ErrUnable}, {5, api.Get, none, none, api.ErrGate}, {1, api.Get, none, none, api.ErrGate},
		{4, api.Get | api.Cut, none, none, api.ErrArg}, {4, 0, none, none, api.ErrArg}, {4, 64, none, none, api.ErrArg}, {99, api.Put, ref(0), none, api.ErrArg}, {99, api.Get, none, none, api.ErrRef}, {4, api.Put, ref(99), none, api.ErrRef}, {1, api.Put, ref(99), none, api.ErrRef}} {
		if v, e := Do(w, c.r, c.able, c.v); e != c.e || !value.Same(v, c.want) {
			t.Error(i, v, e)
		}
	}
	if g, shut := First(w, 5); g != 5 || !shut {
		t.Error(g, shut)
	}
}

func TestP12_4Told(t *testing.T) {
	w := lay(t)
	f, _ := w.Facet(5, api.Get)
	n, _ := w.Make(api.What{Kind: api.Tally})
	tap, _ := w.Make(api.What{Kind: api.Tap, Of: f, By: n})
	for r, l := range map[api.Ref][]api.Ref{5: refs(5, 3), 7: refs(7), 1: nil, f: refs(5, 3), tap: refs(5, 3), 2: nil} {
		got, e := Gates(w, r)
		want(t, got, e, l, 0)
	}
	got, e := Gates(w, 99)
	want(t, got, e, nil, api.ErrRef)
	for r, l := range map[api.Ref][]api.Ref{3: refs(3, 5, f, tap), 5: refs(5, f, tap), 7: refs(7)} {
		got, e := Behind(w, r)
		want(t, got, e, l, 0)
	}
	for r, we := range map[api.Ref]api.Errno{1: api.ErrGate, 2: api.ErrGate, f: api.ErrGate, 99: api.ErrRef} {
		got, e := Behind(w, r)
		want(t, got, e, nil, we)
	}
	all := Shut(w)
	Cut(w, 4)
	Cut(w, 2)
	var told []api.Ref
	for r, g := range all {
		told = append(told, r, g)
		Cut(w, 6)
	}
	if !slices.Equal(told, refs(3, 3, 5, 5, f, 5, tap, 5)) {
		t.Error(told)
	}
	for range all {
		break
	}
	for r, wg := range map[api.Ref]api.Ref{5: 5, tap: 5, 3: 3, 7: 7, 1: 0, 2: 0, 99: 0} {
		if g, shut := First(w, r); g != wg || shut != (wg != 0) {
			t.Error(r, g, shut)
		}
	}
}

func TestP12_5Stop(t *testing.T) {
	w := lay(t)
	for i, c := range []struct {
		stop, spare, want []api.Ref
		e                 api.Errno
	}{{refs(5, 7), nil, refs(2, 6), 0}, {refs(5), refs(3), refs(4), 0}, {refs(3), refs(5), nil, api.ErrGate}, {refs(1), nil, nil, api.ErrGate}, {refs(5, 5, 3), refs(1, 7, 7), refs(2), 0}, {nil, refs(5), nil, 0}, {refs(7), refs(5, 3), refs(6), 0},
		{refs(5, 1), nil, nil, api.ErrGate}, {refs(5), refs(5), nil, api.ErrGate}, {refs(99), nil, nil, api.ErrRef}, {refs(1), refs(99), nil, api.ErrRef}} {
		before := w.Copy()
		l, e := Stop(w, c.stop, c.spare)
		if !slices.Equal(l, c.want) || e != c.e || !world.Same(w, before) {
			t.Error(i, l, e)
		}
	}
	Cut(w, 2)
	l, e := Stop(w, refs(5, 3), refs(5))
	want(t, l, e, nil, 0)
	l, e = Stop(w, refs(5, 7), refs(5))
	want(t, l, e, refs(6), 0)
}

// random makes a world with gates, facets and taps before one another.
func random(r *rand.Rand, n int) *world.World {
	w, _ := world.New()
	w.Make(api.What{Kind: api.Cell})
	w.Make(api.What{Kind: api.Cell})
	w.Make(api.What{Kind: api.Tally})
	for range n {
		target := api.Ref(1 + r.Intn(w.Len()))
		switch r.Intn(5) {
		case 0:
			w.Facet(target, api.Get)
		case 1:
			w.Make(api.What{Kind: api.Tap, Of: target, By: 3})
		default:
			New(w, 0, target)
		}
	}
	return w
}

func shut(w *world.World) []api.Ref {
	var l []api.Ref
	for r := range Shut(w) {
		l = append(l, r)
	}
	return l
}

func TestP12_6Refused(t *testing.T) {
	r := rand.New(rand.NewSource(1))
	w := random(r, 30)
	cut := map[api.Ref]bool{}
	for range 2000 {
		before := w.Copy()
		x := api.Ref(r.Intn(w.Len() + 2))
		if _, e := Do(w, x, api.Able(1<<r.Intn(7)), none); e != api.OK && !world.Same(w, before) {
			t.Fatal(e)
		}
		if is, _ := IsCut(w, x); is {
			cut[x] = true
		}
		for s := range cut {
			if is, e := IsCut(w, s); !is || e != api.OK {
				t.Fatal("open again", s)
			}
		}
	}
}

func TestP12_7JustWhatIsBehind(t *testing.T) {
	r := rand.New(rand.NewSource(2))
	for range 60 {
		w := random(r, 25)
		for range 3 {
			var switches []api.Ref
			for s, kind := range w.Things() {
				if kind == api.Switch {
					switches = append(switches, s)
				}
			}
			if len(switches) == 0 {
				continue
			}
			s := switches[r.Intn(len(switches))]
			g, _ := Of(w, s)
			was, _ := Behind(w, g)
			wanted := append(was, shut(w)...)
			slices.Sort(wanted)
			Cut(w, s)
			if got := shut(w); !slices.Equal(got, slices.Compact(wanted)) {
				t.Error(got, wanted)
			}
			for _, x := range shut(w) {
				n, _, _ := New(w, 0, x)
				if _, is := First(w, n); !is {
					t.Error("not shut from the beginning", n)
				}
			}
		}
	}
}

func TestP12_8GivenOn(t *testing.T) {
	w := random(rand.New(rand.NewSource(3)), 60)
	var behind [][]api.Ref
	for g, kind := range w.Things() {
		if kind == api.Gate {
			l, _ := Behind(w, g)
			behind = append(behind, l)
		}
	}
	for _, a := range behind {
		for _, b := range behind {
			common := 0
			for _, x := range a {
				if slices.Contains(b, x) {
					common++
				}
			}
			if common != 0 && common != len(a) && common != len(b) {
				t.Error(a, b)
			}
		}
	}
}

// fewest finds by trying all lists of switches how few stop and spare.
func fewest(w *world.World, stop, spare []api.Ref) int {
	var switches []api.Ref
	for s, kind := range w.Things() {
		if kind == api.Switch {
			switches = append(switches, s)
		}
	}
	best := -1
	for set := range 1 << len(switches) {
		n := bits.OnesCount(uint(set))
		if best >= 0 && n >= best {
			continue
		}
		c := w.Copy()
		var gates []api.Ref
		for i, s := range switches {
			if set>>i&1 == 1 {
				Cut(c, s)
				g, _ := Of(c, s)
				gates = append(gates, g)
			}
		}
		ok := true
		for _, x := range stop {
			_, is := First(c, x)
			ok = ok && is
		}
		for _, x := range spare {
			l, _ := Gates(w, x)
			for _, g := range gates {
				ok = ok && !slices.Contains(l, g)
			}
		}
		if ok {
			best = n
		}
	}
	return best
}

func TestP12_9Fewest(t *testing.T) {
	r := rand.New(rand.NewSource(4))
	for range 80 {
		w := random(r, 9)
		some := func() (l []api.Ref) {
			for range r.Intn(4) {
				l = append(l, api.Ref(1+r.Intn(w.Len())))
			}
			return l
		}
		stop, spare := some(), some()
		if r.Intn(2) == 0 {
			Cut(w, api.Ref(1+r.Intn(w.Len())))
		}
		l, e := Stop(w, stop, spare)
		best := fewest(w, stop, spare)
		if (e == api.OK) != (best >= 0) || e == api.OK && len(l) != best {
			t.Fatal(l, e, best)
		}
		if e != api.OK {
			continue
		}
		for _, s := range l {
			Cut(w, s)
		}
		for _, x := range stop {
			if _, is := First(w, x); !is {
				t.Error("not stopped", x)
			}
		}
	}
}
