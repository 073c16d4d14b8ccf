package snap

import (
	"encoding/hex"
	"hash/fnv"
	"math/rand"
	"reflect"
	"slices"
	"strings"
	"testing"

	"postern/api"
	"postern/lang"
	"postern/pick"
	"postern/run"
	"postern/value"
	"postern/world"
)

func num(n int64) api.Value          { return api.Value{Kind: api.Number, N: n} }
func ref(r api.Ref) api.Value        { return api.Value{Kind: api.Reference, R: r} }
func list1(l ...api.Value) api.Value { return api.Value{Kind: api.List, L: l} }

func read1(t *testing.T, s string) []api.Stmt {
	t.Helper()
	c, at, e := lang.Read(s)
	if e != api.OK {
		t.Fatal(s, at, e)
	}
	return c
}

func who(t *testing.T, w *world.World, side api.Side, s string, l ...any) api.Subject {
	t.Helper()
	var names []api.Name
	for i := 0; i < len(l); i += 2 {
		names = append(names, api.Name{Name: l[i].(string), Value: ref(l[i+1].(api.Ref))})
	}
	x, e := run.New(w, side, read1(t, s), names)
	if e != api.OK {
		t.Fatal(s, e)
	}
	return x
}

func play(t *testing.T, w *world.World, l ...api.Subject) *pick.Play {
	t.Helper()
	p, e := pick.New(w, l...)
	if e != api.OK {
		t.Fatal(e)
	}
	return p
}

// full is a world with things of all kinds.
func full(t *testing.T) *world.World {
	t.Helper()
	w, _ := world.New(0)
	for _, x := range []api.What{{Kind: api.Cell, Home: 1, Value: num(-1)}, {Kind: api.Log, Values: []api.Value{ref(1), {}}}, {Kind: api.Tally, N: 5}, {Kind: api.Queue, Values: []api.Value{num(2)}}, {Kind: api.Sealer}, {Kind: api.Opener, Of: 5}, {Kind: api.Box, Of: 5, Value: ref(2)}, {Kind: api.Mint, N: 9, Lost: 2}, {Kind: api.Purse, Of: 8, N: 7},
		{Kind: api.Promise, Full: true, Value: ref(3)}, {Kind: api.Keeper, Of: 10}, {Kind: api.Clerk, Code: read1(t, "reply [ c ]"), Names: []api.Name{{Name: "c", Value: ref(1)}}}, {Kind: api.Switch}, {Kind: api.Gate, Of: 1, By: 13}, {Kind: api.Tap, Of: 14, By: 3}} {
		if _, e := w.Make(x); e != api.OK {
			t.Fatal(x.Kind, e)
		}
	}
	w.Facet(15, api.Get)
	w.CutEdge(1)
	return w
}

// The bytes as the chapter has them, told by hand.
func be(x uint64, n int) string {
	s := ""
	for n--; n >= 0; n-- {
		s += string([]byte{byte(x >> (8 * n))})
	}
	return s
}
func ct(n int) string       { return be(uint64(n), 4) }
func nm(n int64) string     { return be(uint64(n)^1<<63, 8) }
func tx(s string) string    { return ct(len(s)) + s }
func vl(v api.Value) string { s, _ := value.Bytes(v); return s }
func ex(kind byte, n int64, s string, l ...string) string {
	return string([]byte{kind}) + nm(n) + tx(s) + ct(len(l)) + strings.Join(l, "")
}
func st(op byte, name, second string, able, what byte, a, b string, blocks string, with ...string) string {
	s := string([]byte{op}) + tx(name) + tx(second) + string([]byte{able, what}) + a + b + blocks + ct(len(with))
	for _, x := range with {
		s += tx(x)
	}
	return s
}
func whole(letter, body string) string {
	s := "postern\n" + letter + body
	h := fnv.New64a()
	h.Write([]byte(s))
	return s + be(h.Sum64(), 8)
}

const nothing = "\x00\x80\x00\x00\x00\x00\x00\x00\x00\x00\x00\x00\x00\x00\x00\x00\x00"

// fullBytes is the body of the world that full makes.
func fullBytes() string {
	reply := st(7, "", "", 0, 0, ex(3, 0, "", ex(4, 0, "c")), nothing, ct(0)+ct(0)+ct(0))
	things := []string{
		"\x01" + ct(1) + vl(num(-1)), "\x02" + ct(0) + ct(2) + vl(ref(1)) + "\x00", "\x03" + ct(0) + nm(5), "\x04" + ct(0) + ct(1) + vl(num(2)), "\x05" + ct(0), "\x06" + ct(0) + ct(5), "\x07" + ct(0) + ct(5) + vl(ref(2)),
		"\x08" + ct(0) + nm(9) + nm(2), "\x09" + ct(0) + ct(8) + nm(7), "\x0a" + ct(0) + "\x01" + vl(ref(3)), "\x0b" + ct(0) + ct(10), "\x0c" + ct(0) + ct(1) + reply + ct(1) + tx("c") + vl(ref(1)), "\x0d" + ct(0) + "\x00" + ct(14), "\x0f" + ct(0) + ct(1) + ct(13), "\x10" + ct(0) + ct(14) + ct(3), "\x0e" + ct(15) + "\x01",
	}
	s := ct(1) + ct(0) + ct(1) + ct(1) + ct(16) + ct(2) + ct(14) + ct(1) + ct(len(things))
	for i, x := range things {
		s += ct(i+1) + x
	}
	return s
}

func TestP27_1Bytes(t *testing.T) {
	w := full(t)
	if s, e := World(w); e != api.OK || s != whole("w", fullBytes()) {
		t.Errorf("%x\n%x %v", s, whole("w", fullBytes()), e)
	}
	p := play(t, w, who(t, w, 1, "x = put a 1", "a", api.Ref(16)), who(t, w, 0, ""))
	put := st(2, "x", "", 2, 0, ex(4, 0, "a"), ex(1, 1, ""), ct(0)+ct(0)+ct(0))
	body := fullBytes() + ct(2) + ct(1) + ct(1) + put + ct(1) + tx("a") + vl(ref(16)) + ct(1) + ct(16) + ct(0) + ct(0) + ct(0) + ct(0)
	if s, e := Write(p); e != api.OK || s != whole("p", body) {
		t.Errorf("%x\n%x %v", s, whole("p", body), e)
	}
	one, _ := world.New()
	if s, _ := World(one); len(s) != 41 {
		t.Error(len(s))
	}
	if s, e := Code(nil); len(s) != 21 || hex.EncodeToString([]byte(s[8:13])) != "6300000000" || e != api.OK {
		t.Error(s, e)
	}
	c := []api.Stmt{{Op: 99, Name: "no name", Second: "\xff", Able: 255, What: 77, A: api.Expr{Kind: 9, N: -3, S: "a", L: []api.Expr{{}}}, Then: []api.Stmt{{}}, With: []string{"", "x"}}}
	empty := st(0, "", "", 0, 0, nothing, nothing, ct(0)+ct(0)+ct(0))
	body = ct(1) + st(99, "no name", "\xff", 255, 77, ex(9, -3, "a", nothing), nothing, ct(1)+empty+ct(0)+ct(0), "", "x")
	if s, e := Code(c); e != api.OK || s != whole("c", body) {
		t.Errorf("%x\n%x %v", s, whole("c", body), e)
	}
	if _, e := Code(make([]api.Stmt, 512)); e != api.OK {
		t.Error(e)
	}
	if s, e := Code(make([]api.Stmt, 513)); s != "" || e != api.ErrArg {
		t.Error(e)
	}
	if _, e := Code([]api.Stmt{{Then: make([]api.Stmt, 200), Else: make([]api.Stmt, 200), Code: make([]api.Stmt, 112)}}); e != api.ErrArg {
		t.Error(e)
	}
	endless := make([]api.Stmt, 1)
	endless[0].Else = endless
	if _, e := Code(endless); e != api.ErrArg {
		t.Error(e)
	}
	loop := make([]api.Expr, 2)
	loop[0].L, loop[1].L = loop, loop
	if s, e := Code([]api.Stmt{{A: loop[0]}}); s != "" || e != api.ErrLong {
		t.Error(e)
	}
	many := []api.Expr{{}}
	for range 40 {
		many = []api.Expr{{L: many}, {L: many}}
	}
	if _, e := Code([]api.Stmt{{B: many[0]}}); e != api.ErrLong {
		t.Error(e)
	}
	long := strings.Repeat("a", api.MaxSnap-21-75-17)
	if s, e := Code([]api.Stmt{{Name: long}}); e != api.OK {
		t.Error(len(s), e)
	} else if _, e := Code([]api.Stmt{{Name: long + strings.Repeat("a", api.MaxSnap-len(s))}}); e != api.OK {
		t.Error(e)
	} else if _, e := Code([]api.Stmt{{Name: long + strings.Repeat("a", api.MaxSnap-len(s)+1)}}); e != api.ErrLong {
		t.Error(e)
	}
	for _, z := range []*world.World{nil, {}} {
		if s, e := World(z); s != "" || e != api.ErrNil {
			t.Error(e)
		}
	}
	for _, z := range []*pick.Play{nil, {}} {
		s, e1 := Write(z)
		q, old, e2 := Tight(z)
		if s != "" || q != nil || old != nil || e1 != api.ErrNil || e2 != api.ErrNil {
			t.Error(e1, e2)
		}
	}
}

func TestP27_2Read(t *testing.T) {
	w := full(t)
	ws, _ := World(w)
	ps, _ := Write(play(t, w))
	cs, _ := Code(read1(t, "x = 1"))
	errs := func(s string, a, b, c api.Errno) {
		t.Helper()
		p, e1 := Read(s)
		v, e2 := ReadWorld(s)
		l, e3 := ReadCode(s)
		if e1 != a || e2 != b || e3 != c || (p != nil) != (a == 0) || (v != nil) != (b == 0) || (l != nil) != (c == 0) {
			t.Error(len(s), e1, e2, e3)
		}
	}
	const no, sum = api.ErrSnap, api.ErrSum
	errs(ws, no, 0, no)
	errs(ps, 0, no, no)
	errs(cs, no, no, 0)
	errs("", no, no, no)
	errs(ws[:16], no, no, no)
	errs("Postern\nw"+ws[9:], no, no, no)
	errs(ws[:len(ws)-1]+"\x00", no, sum, no)
	errs(ws+"\x00", no, sum, no)
	errs("postern\nw"+"\x00\x00\x00\x00\x00\x00\x00\x00", no, sum, no)
	errs("postern\nw"+"\x00\x00\x00\x00\x00\x00\x00", no, no, no)
	errs(strings.Repeat("x", api.MaxSnap), no, no, no)
	errs(strings.Repeat("x", api.MaxSnap+1), api.ErrLong, api.ErrLong, api.ErrLong)
	errs(whole("w", ""), no, no, no)
	body := fullBytes()
	errs(whole("w", body+"\x00"), no, no, no)
	for i := range body {
		errs(whole("w", body[:i]), no, no, no)
	}
	at := func(part string) int {
		if strings.Count(body, part) != 1 {
			t.Fatal(part)
		}
		return strings.Index(body, part)
	}
	promise := at("\x0a"+ct(0)+"\x01") + 5
	errs(whole("w", body[:promise]+"\x02"+body[promise+1:]), no, no, no)
	kind := at("\x0e"+ct(15)) + 0
	errs(whole("w", body[:kind]+"\x00"+body[kind+1:]), no, no, no)
	errs(whole("w", body[:kind]+"\x11"+body[kind+1:]), no, no, no)
	errs(whole("w", body[:kind+5]+"\x41"+body[kind+6:]), no, api.ErrWorld, no)
	cell := at("\x01"+ct(1)+vl(num(-1))) + 5
	errs(whole("w", body[:cell]+"\x05"+body[cell+1:]), no, no, no)
	errs(whole("w", ct(0)+ct(0)+ct(1)+ct(1)+ct(0)+ct(0)), no, api.ErrWorld, no)
	one := ct(0) + ct(0) + ct(0) + ct(1) + ct(0) + ct(0)
	sub := ct(0) + ct(0) + ct(0) + ct(0)
	errs(whole("w", one), no, 0, no)
	errs(whole("p", one+ct(1)+sub), 0, no, no)
	errs(whole("p", one+ct(1)+ct(1)+sub[4:]), api.ErrSubject, no, no)
	errs(whole("p", one+ct(33)+strings.Repeat(ct(1)+sub[4:], 33)), api.ErrLong, no, no)
	errs(whole("p", one+ct(40)+strings.Repeat(sub, 40)), api.ErrLong, no, no)
	errs(whole("p", one+ct(32)+strings.Repeat(sub, 32)), 0, no, no)
	errs(whole("p", ct(0)+ct(0)+ct(1)+ct(1)+ct(0)+ct(0)+ct(40)+strings.Repeat(sub, 40)), api.ErrWorld, no, no)
	errs(whole("p", one+ct(2)+sub), no, no, no)
	stmt := st(0, "", "", 0, 0, nothing, nothing, ct(0)+ct(0)+ct(0))
	errs(whole("c", ct(512)+strings.Repeat(stmt, 512)), no, no, 0)
	errs(whole("c", ct(513)+strings.Repeat(stmt, 513)), no, no, api.ErrArg)
	errs(whole("c", ct(1000)+strings.Repeat(stmt, 1000)), no, no, api.ErrArg)
	errs(whole("c", ct(1000)+strings.Repeat(stmt, 999)), no, no, no)
	errs(whole("c", "\xff\xff\xff\xff"), no, no, no)
	errs(whole("p", one+ct(1)+ct(0)+ct(513)+strings.Repeat(stmt, 513)+ct(0)+ct(0)), api.ErrSubject, no, no)
	names := ""
	for range 65 {
		names += tx("a") + "\x00"
	}
	errs(whole("p", one+ct(1)+ct(0)+ct(0)+ct(65)+names+ct(0)), api.ErrSubject, no, no)
	deep := strings.Repeat("\x00"+nm(0)+ct(0)+ct(1), 200000)
	errs(whole("c", ct(1)+"\x00"+ct(0)+ct(0)+"\x00\x00"+deep), no, no, no)
}

func TestP27_3Sum(t *testing.T) {
	if Sum("") != 14695981039346656037 || Sum("a") != 12638187200555641996 {
		t.Error(Sum(""), Sum("a"))
	}
	for _, s := range []string{"\x00", "\xff\x80", "postern", strings.Repeat("ab", 1000)} {
		h := fnv.New64a()
		h.Write([]byte(s))
		if Sum(s) != h.Sum64() {
			t.Error(s)
		}
	}
}

func TestP27_4Tight(t *testing.T) {
	w, _ := world.New()
	for range 7 {
		w.Make(api.What{Kind: api.Log})
	}
	w.Lay(3, api.What{Kind: api.Log, Values: []api.Value{list1(ref(7), ref(3))}})
	w.Drop(1, 2, 4, 5, 6)
	s := who(t, w, 0, "x = get l", "l", api.Ref(7))
	s.Seen = []api.Ref{5, 7}
	p := play(t, w, s)
	p.Do(api.Turn{})
	before := p.Copy()
	q, old, e := Tight(p)
	if e != api.OK || !slices.Equal(old, []api.Ref{3, 5, 7}) || !pick.Same(p, before) || q.Len() != 0 {
		t.Fatal(old, e)
	}
	x := q.World().Tell()
	if x.Last != 3 || len(x.Things) != 2 || x.Things[0].Ref != 1 || x.Things[1].Ref != 3 || !slices.Equal(x.Made, []int{7}) || !value.Same(x.Things[0].What.Values[0], list1(ref(3), ref(1))) {
		t.Error(x)
	}
	if y := q.Subjects()[0]; !slices.Equal(y.Seen, []api.Ref{2, 3}) || y.Names[0].Value.R != 3 {
		t.Error(y)
	}
	v := full(t)
	v.Drop(4)
	a, old, e := Tight(play(t, v))
	if e != api.OK || len(old) != 15 || old[3] != 5 {
		t.Fatal(old, e)
	}
	for r, kind := range v.Things() {
		n := r
		if r > 4 {
			n--
		}
		x, _ := v.What(r)
		y, _ := a.World().What(n)
		if y.Kind != kind || x.Of > 4 && y.Of != x.Of-1 || x.Of < 4 && y.Of != x.Of || x.By > 4 && y.By != x.By-1 {
			t.Error(x, y)
		}
	}
	empty, old, e := Tight(play(t, func() *world.World { w, _ := world.New(0); return w }()))
	if e != api.OK || len(old) != 0 || empty.World().Sides() != 2 {
		t.Error(old, e)
	}
}

// random makes a Play in which this and that was done, and some of it swept.
func random(t *testing.T, r *rand.Rand) *pick.Play {
	t.Helper()
	w := full(t)
	do := []string{"x = get a", "x = put a b", "x = give a b", "y = take a 1", "z = part x 0", "x = ask a b", "s o = make seal", "x = ask s b", "a = x", "l = make log", "g h = make gate a", "v = await a", "reply [ a b x ]", "t u = make tap a", "f = make facet a get", "if same a b { x = 1 } else { a = b }", "k = make clerk [ a b ] { x = get a ; reply [ x it ] }", "x = ask k 1"}
	var l []api.Subject
	for range 3 {
		var c []string
		for range 14 {
			c = append(c, do[r.Intn(len(do))])
		}
		l = append(l, who(t, w, api.Side(r.Intn(2)), strings.Join(c, " ; "), "a", api.Ref(1+r.Intn(16)), "b", api.Ref(1+r.Intn(16))))
	}
	p := play(t, w, l...)
	p.Rounds(r.Intn(25))
	w, l = p.World(), p.Subjects()
	for range 10 {
		x := api.Ref(1 + r.Intn(int(w.Tell().Last)))
		held := false
		for _, s := range l {
			for _, n := range s.Names {
				held = held || slices.Contains(value.Refs(n.Value), x)
			}
		}
		if !held && w.Kind(x) != api.Facet {
			facets := false
			for set := api.Able(0); set < 64; set++ {
				_, ok := w.Find(x, set)
				facets = facets || ok
			}
			if !facets {
				w.Drop(x)
			}
		}
	}
	return play(t, w, l...)
}

func TestP27_5OneForm(t *testing.T) {
	r := rand.New(rand.NewSource(1))
	seen := map[string]*pick.Play{}
	for range 80 {
		p := random(t, r)
		s, e := Write(p)
		q, f := Read(s)
		if e != api.OK || f != api.OK || !pick.Same(p, q) || q.Len() != 0 {
			t.Fatal(e, f)
		}
		if again, _ := Write(q); again != s {
			t.Error("another form")
		}
		if old := seen[s]; old != nil && !pick.Same(old, p) {
			t.Error("the same bytes of unlike Plays")
		}
		seen[s] = p
		w, _ := World(p.World())
		if v, e := ReadWorld(w); e != api.OK || !world.Same(v, p.World()) {
			t.Error(e)
		}
		for _, x := range p.Subjects() {
			c, e := Code(x.Code)
			if back, f := ReadCode(c); e != api.OK || f != api.OK || !reflect.DeepEqual(back, x.Code) {
				t.Error(e, f)
			}
		}
		p.Rounds(5)
		if more, _ := Write(p); p.Len() > 0 && more == s {
			t.Error("it stands otherwise")
		}
	}
}

func TestP27_6OneByte(t *testing.T) {
	p := random(t, rand.New(rand.NewSource(2)))
	ps, _ := Write(p)
	ws, _ := World(p.World())
	cs, _ := Code(read1(t, "x = get y ; if same x y { fail } else { }"))
	r := rand.New(rand.NewSource(3))
	for i, s := range []string{ps, ws, cs} {
		for at := range len(s) {
			b := []byte(s)
			b[at] ^= byte(1 + r.Intn(255))
			_, e1 := Read(string(b))
			_, e2 := ReadWorld(string(b))
			_, e3 := ReadCode(string(b))
			if []api.Errno{e1, e2, e3}[i] == api.OK {
				t.Error(i, at)
			}
		}
	}
}

func texts(t *testing.T, p *pick.Play, l []api.Turn) [][]string {
	t.Helper()
	p = p.Copy()
	from := p.Len()
	first := p.Subjects()
	p.Do(l...)
	var out [][]string
	for i, s := range first {
		var lines []api.Line
		for n, d := range p.Each() {
			if n >= from && d.Turn.Edge == 0 && d.Turn.Who == i {
				lines = append(lines, d.Line)
			}
		}
		x, e := run.Texts(s, lines)
		if e != api.OK {
			t.Fatal(e)
		}
		out = append(out, x)
	}
	return out
}

func TestP27_7GoesOn(t *testing.T) {
	r := rand.New(rand.NewSource(4))
	for range 80 {
		p := random(t, r)
		s, _ := Write(p)
		q, _ := Read(s)
		tight, old, e := Tight(p)
		if e != api.OK || !slices.IsSorted(old) {
			t.Fatal(e)
		}
		var l []api.Turn
		for range 40 {
			l = append(l, api.Turn{Who: r.Intn(3)})
		}
		a, b, c := texts(t, p, l), texts(t, q, l), texts(t, tight, l)
		if !reflect.DeepEqual(a, b) || !reflect.DeepEqual(a, c) {
			t.Error(a, b, c)
		}
		again, same, _ := Tight(tight)
		for i, x := range same {
			if x != api.Ref(i+1) {
				t.Error(same)
			}
		}
		if !pick.Same(again, tight) {
			t.Error("tight of tight")
		}
	}
}
