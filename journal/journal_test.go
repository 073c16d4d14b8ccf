package journal

import (
	"encoding/binary"
	"hash/fnv"
	"math/rand"
	"slices"
	"strings"
	"testing"

	"postern/api"
	"postern/lang"
	"postern/pick"
	"postern/run"
	"postern/snap"
	"postern/world"
)

func ref(r api.Ref) api.Value { return api.Value{Kind: api.Reference, R: r} }

func who(t *testing.T, w *world.World, side api.Side, s string, l ...any) api.Subject {
	t.Helper()
	c, at, e := lang.Read(s)
	if e != api.OK {
		t.Fatal(s, at, e)
	}
	var names []api.Name
	for i := 0; i < len(l); i += 2 {
		names = append(names, api.Name{Name: l[i].(string), Value: ref(l[i+1].(api.Ref))})
	}
	x, e := run.New(w, side, c, names)
	if e != api.OK {
		t.Fatal(s, e)
	}
	return x
}

// play is a Play of three subjects on two sides.
func play(t *testing.T) *pick.Play {
	t.Helper()
	w, _ := world.New(0)
	w.Make(api.What{Kind: api.Cell})
	w.Make(api.What{Kind: api.Queue, Home: 1})
	p, e := pick.New(w, who(t, w, 0, "x = put c q ; y = get c ; l = make log ; x = give q l ; fail", "c", api.Ref(1), "q", api.Ref(2)), who(t, w, 1, "x = get c ; y = take x 1 ; if same 1 1 { reply [ x c ] } else { } ; x = get c ; x = 1", "c", api.Ref(1)), who(t, w, 0, "x = _"))
	if e != api.OK {
		t.Fatal(e)
	}
	return p
}

func open(t *testing.T, p *pick.Play) *Journal {
	t.Helper()
	j, e := New(p)
	if e != api.OK {
		t.Fatal(e)
	}
	return j
}

var schedule = []api.Turn{{Who: 0}, {Who: 1}, {Who: 1}, {Who: 0}, {Who: 2}, {Who: 0}, {Who: 2}, {Who: 0}, {Who: 1}, {Who: 1}, {Edge: 1}, {Who: 1}, {Edge: 1}, {Who: 0}, {Who: 1}, {Who: 1}}

func TestNilJournals(t *testing.T) {
	for _, p := range []*pick.Play{nil, {}} {
		if j, e := New(p); j != nil || e != api.ErrNil {
			t.Error(e)
		}
	}
	for _, j := range []*Journal{nil, {}} {
		_, told, e1 := j.Turn(api.Turn{Who: 99})
		n, e2 := j.Do(make([]api.Turn, api.MaxTurns+1)...)
		p, e3 := j.At(-1)
		if told || n != 0 || p != nil || e1 != api.ErrNil || e2 != api.ErrNil || e3 != api.ErrNil || j.Play() != nil || j.Bytes() != "" || j.Len() != 0 || j.Mark() != 0 {
			t.Error(e1, e2, e3)
		}
	}
}

func TestP29_1New(t *testing.T) {
	p := play(t)
	p.Turn(api.Turn{Who: 2})
	body, _ := snap.Write(p)
	j := open(t, p)
	want := "JRN\x01" + string(binary.BigEndian.AppendUint32(nil, uint32(len(body)))) + body
	h := fnv.New64a()
	h.Write([]byte(want))
	want += string(binary.BigEndian.AppendUint64(nil, h.Sum64()))
	if j.Bytes() != want || j.Len() != 0 || j.Mark() != h.Sum64() || j.Play().Len() != 0 {
		t.Errorf("%x\n%x", j.Bytes(), want)
	}
	p.Turn(api.Turn{Who: 0})
	j.Play().Turn(api.Turn{Who: 0})
	if j.Bytes() != want || j.Play().Len() != 0 {
		t.Error("what becomes of p, or of the answer, is seen")
	}
}

// byHand tells the records of turns that were done, as the chapter has them.
func byHand(t *testing.T, p *pick.Play, mark uint64) string {
	t.Helper()
	s := ""
	begin, _ := p.Begin()
	for _, d := range p.Each() {
		begin.Turn(d.Turn)
		b := []byte{0, byte(d.Turn.Who), 0, byte(d.Turn.Edge)}
		text := ""
		if d.Turn.Edge == 0 {
			text, _ = run.Text(begin.Subjects()[d.Turn.Who], d.Line)
		}
		for _, c := range append(b, text...) {
			mark = (mark ^ uint64(c)) * 1099511628211
		}
		s += string(b) + string(binary.BigEndian.AppendUint64(nil, mark))
	}
	return s
}

func TestP29_2Turns(t *testing.T) {
	j := open(t, play(t))
	head, mark := j.Bytes(), j.Mark()
	if d, told, e := j.Turn(api.Turn{Who: 0}); !told || e != api.OK || d.Line.Op != api.Act || len(d.Deeds) != 1 || j.Len() != 1 || len(j.Bytes()) != len(head)+12 {
		t.Error(d, told, e)
	}
	j.Turn(api.Turn{Who: 2})
	before := j.Bytes()
	for _, x := range []api.Turn{{Who: 99}, {Who: -1}, {Edge: 2}, {Edge: -1}, {Who: 1, Edge: 1}} {
		if d, told, e := j.Turn(x); told || e != api.ErrArg || d.Line.Op != 0 || j.Bytes() != before {
			t.Error(x, told, e)
		}
		if n, e := j.Do(api.Turn{Who: 0}, x); n != 0 || e != api.ErrArg || j.Bytes() != before {
			t.Error(x, n, e)
		}
	}
	if d, told, e := j.Turn(api.Turn{Who: 2}); told || e != api.OK || d.Line.Op != 0 || j.Bytes() != before {
		t.Error(told, e)
	}
	if n, e := j.Do(make([]api.Turn, api.MaxTurns+1)...); n != 0 || e != api.ErrLong || j.Bytes() != before {
		t.Error(n, e)
	}
	if n, e := j.Do(schedule...); n != 11 || e != api.OK || j.Len() != 13 {
		t.Error(n, e, j.Len())
	}
	if got := j.Bytes(); got != head+byHand(t, j.Play(), mark) || j.Mark() != binary.BigEndian.Uint64([]byte(got[len(got)-8:])) {
		t.Errorf("%x", got)
	}
}

// long makes a journal with room for one record more.
func long(t *testing.T) *Journal {
	t.Helper()
	w, _ := world.New(0)
	// A cell of a list of texts has 9 + 4 bytes, and for each text 3 more than that has.
	texts := func(bytes int) api.Value {
		v := api.Value{Kind: api.List}
		for ; bytes > 3; bytes -= min(bytes, 259) {
			v.L = append(v.L, api.Value{Kind: api.Text, S: strings.Repeat("a", min(bytes, 259)-3)})
		}
		return v
	}
	for w.Made(0) < 129 {
		w.Make(api.What{Kind: api.Cell, Value: texts(500 * 259)})
	}
	begin := func() *pick.Play {
		q, _ := pick.New(w, who(t, w, 0, "x = 1 ; x = 2 ; x = 3"))
		return q
	}
	body, _ := snap.Write(begin())
	missing := api.MaxJournal - 12 - len(body) - 16
	w.Make(api.What{Kind: api.Cell, Home: 1, Value: texts(missing - 20)})
	return open(t, begin())
}

func TestP29_2Long(t *testing.T) {
	j := long(t)
	if n := len(j.Bytes()); n > api.MaxJournal-12 || n <= api.MaxJournal-24 {
		t.Fatal(n)
	}
	if _, told, e := j.Turn(api.Turn{}); !told || e != api.OK {
		t.Error(told, e)
	}
	before, stood := j.Bytes(), j.Play()
	if _, told, e := j.Turn(api.Turn{}); told || e != api.ErrLong || j.Bytes() != before || !pick.Same(j.Play(), stood) {
		t.Error(told, e)
	}
	if _, _, e := j.Turn(api.Turn{Who: 1}); e != api.ErrArg {
		t.Error(e)
	}
	if n, e := j.Do(api.Turn{}, api.Turn{}); n != 0 || e != api.ErrLong {
		t.Error(n, e)
	}
	k, used, e := Open(before)
	if e != api.OK || used != len(before) || !pick.Same(k.Play(), stood) {
		t.Error(used, e)
	}
	w := stood.World()
	for range 60 {
		w.Make(api.What{Kind: api.Cell, Home: 1})
	}
	big, _ := pick.New(w, stood.Subjects()...)
	if j, e := New(big); j != nil || e != api.ErrLong {
		t.Error(e)
	}
}

func TestP29_3Open(t *testing.T) {
	j := open(t, play(t))
	head := j.Bytes()
	j.Do(schedule...)
	s := j.Bytes()
	size := len(head)
	for i, c := range []struct {
		s    string
		used int
		e    api.Errno
	}{{s, len(s), 0}, {s[:len(s)-1], len(s) - 12, 0}, {s + "\x00", len(s), 0}, {s[:size+13] + "\x09" + s[size+14:], size + 12, 0}, {s[:size+20] + string([]byte{s[size+20] ^ 1}) + s[size+21:], size + 12, 0}, {head, size, 0}, {"", 0, api.ErrHead}, {"JRN", 0, api.ErrHead}, {"JRN\x01", 0, api.ErrHead},
		{"JRN\x02" + s[4:], 0, api.ErrHead}, {s[:size-1], 0, api.ErrHead}, {s[:4] + "\xff" + s[5:], 0, api.ErrHead}, {s[:20] + string([]byte{s[20] ^ 1}) + s[21:], 0, api.ErrHead}, {strings.Repeat("x", api.MaxJournal), 0, api.ErrHead}, {s + strings.Repeat("x", api.MaxJournal+1-len(s)), 0, api.ErrLong}, {s + strings.Repeat("x", api.MaxJournal-len(s)), len(s), 0}} {
		k, used, e := Open(c.s)
		n, f := Head(c.s)
		l, g := Turns(c.s)
		if used != c.used || e != c.e || f != c.e || g != c.e || (k == nil) != (e != api.OK) {
			t.Error(i, used, e, f, g)
			continue
		}
		if e != api.OK {
			if n != 0 || l != nil {
				t.Error(i, n, l)
			}
			continue
		}
		var turns []api.Turn
		for _, d := range j.Play().History()[:(used-size)/12] {
			turns = append(turns, d.Turn)
		}
		if n != size || !slices.Equal(l, turns) || k.Bytes() != c.s[:used] || k.Len() != len(turns) {
			t.Error(i, n, l, k.Len())
		}
	}
	// A record with a sum as it should be, of a turn that may not be, or does not tell.
	for _, x := range [][4]byte{{0, 7, 0, 0}, {0, 0, 0, 2}, {0, 1, 0, 1}, {0, 2, 0, 0}, {1, 0, 0, 0}} {
		mark := j.Mark()
		for _, c := range x {
			mark = (mark ^ uint64(c)) * 1099511628211
		}
		if _, used, e := Open(s + string(x[:]) + string(binary.BigEndian.AppendUint64(nil, mark))); used != len(s) || e != api.OK {
			t.Error(x, used, e)
		}
	}
	body, _ := snap.World(play(t).World())
	bad, _ := layHead(body)
	if _, _, e := Open(string(bad)); e != api.ErrHead {
		t.Error("a head without a Play", e)
	}
}

func TestP29_4At(t *testing.T) {
	p := play(t)
	j := open(t, p)
	stood := []*pick.Play{j.Play()}
	for _, x := range schedule {
		if _, told, _ := j.Turn(x); told {
			stood = append(stood, j.Play())
		}
	}
	for n, was := range stood {
		q, e := j.At(n)
		if e != api.OK || !pick.Same(q, was) || q.Len() != n {
			t.Error(n, e)
		}
		q.Turn(api.Turn{Who: 0})
	}
	if !pick.Same(stood[0], p) {
		t.Error("another beginning")
	}
	for _, n := range []int{-1, len(stood)} {
		if q, e := j.At(n); q != nil || e != api.ErrArg {
			t.Error(n, e)
		}
	}
}

func TestP29_5Torn(t *testing.T) {
	j := open(t, play(t))
	size := len(j.Bytes())
	j.Do(schedule...)
	s := j.Bytes()
	r := rand.New(rand.NewSource(1))
	for cut := range len(s) + 1 {
		k, used, e := Open(s[:cut])
		if cut < size {
			if k != nil || used != 0 || e != api.ErrHead {
				t.Error(cut, e)
			}
			continue
		}
		n := (cut - size) / 12
		at, _ := j.At(n)
		if e != api.OK || used != size+12*n || k.Len() != n || !pick.Same(k.Play(), at) {
			t.Error(cut, used, e)
		}
		// Other bytes behind.
		b := make([]byte, r.Intn(40))
		r.Read(b)
		if k, used, e := Open(s[:size+12*n] + string(b)); e != api.OK || used != size+12*n || !pick.Same(k.Play(), at) {
			t.Error(cut, used, e)
		}
	}
}

func TestP29_6ThereAndBack(t *testing.T) {
	r := rand.New(rand.NewSource(2))
	for range 30 {
		j := open(t, play(t))
		for range r.Intn(20) {
			j.Turn(schedule[r.Intn(len(schedule))])
		}
		s := j.Bytes()
		k, used, e := Open(s)
		if e != api.OK || used != len(s) || k.Bytes() != s || !pick.Same(j.Play(), k.Play()) || k.Mark() != j.Mark() {
			t.Fatal(used, e)
		}
		for range 10 {
			x := schedule[r.Intn(len(schedule))]
			_, a, _ := j.Turn(x)
			_, b, _ := k.Turn(x)
			if a != b || j.Bytes() != k.Bytes() {
				t.Error("goes on otherwise")
			}
		}
		torn := j.Bytes()
		b := []byte(torn)
		if at := len(s) - 1; at > 0 {
			b[at] ^= 1
		}
		if k, used, e := Open(string(b)); e == api.OK && k.Bytes() != string(b)[:used] {
			t.Error("other bytes than were read")
		}
	}
}

func TestP29_7OnlyGrow(t *testing.T) {
	r := rand.New(rand.NewSource(3))
	j := open(t, play(t))
	for range 60 {
		before, n := j.Bytes(), j.Len()
		_, told, e := j.Turn(api.Turn{Who: r.Intn(5) - 1, Edge: r.Intn(3) / 2 * r.Intn(3)})
		now := j.Bytes()
		if !strings.HasPrefix(now, before) || told && (len(now) != len(before)+12 || j.Len() != n+1) || !told && now != before || told && e != api.OK {
			t.Error(told, e)
		}
	}
}
