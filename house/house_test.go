package house

import (
	"math/rand"
	"reflect"
	"slices"
	"strconv"
	"strings"
	"testing"

	"postern/api"
	"postern/journal"
	"postern/never"
	"postern/pick"
	"postern/scene"
	"postern/snap"
)

func num(n int64) api.Value         { return api.Value{Kind: api.Number, N: n} }
func txt(s string) api.Value        { return api.Value{Kind: api.Text, S: s} }
func ref(r api.Ref) api.Value       { return api.Value{Kind: api.Reference, R: r} }
func list(l ...api.Value) api.Value { return api.Value{Kind: api.List, L: l} }
func turn(n int) api.Cue            { return api.Cue{Turn: api.Turn{Who: n}} }
func edge(n int) api.Cue            { return api.Cue{Turn: api.Turn{Edge: n}} }
func ask(w string, l ...api.Value) api.Cue {
	return api.Cue{Ask: api.Quest{Word: w, Args: l}}
}

const example = `#1 cell 0 7
#2 log 0 [ ]
#3 facet #1 get
subject 0 { x = put c l ; y = get c } c = #1 , l = #2
subject 0 { x = get g ; z = give x 5 } g = #3
`

func read(t *testing.T, text string) api.Scene {
	t.Helper()
	s, line, at, e := scene.Read(text)
	if e != api.OK {
		t.Fatal(text, line, at, e)
	}
	return s
}

func build(t *testing.T, text string) *House {
	t.Helper()
	h, e := New(read(t, text))
	if e != api.OK {
		t.Fatal(text, e)
	}
	return h
}

func do(t *testing.T, h *House, l ...api.Cue) []string {
	t.Helper()
	told, e := h.Do(l...)
	if e != api.OK {
		t.Fatal(l, e)
	}
	return told
}

// tells says whether a scene's text, played, tells these lines.
func tells(t *testing.T, text string, want ...string) {
	t.Helper()
	out, line, at, e := Run(text)
	if e != api.OK || line != 0 || at != 0 || !slices.Equal(out, want) {
		t.Errorf("%s\ngot %q %v %v %v\nwanted %q", text, out, line, at, e, want)
	}
}

func TestP31_1New(t *testing.T) {
	s := read(t, example+"turn 0")
	h, e := New(s)
	if e != api.OK || h.Play().Len() != 0 {
		t.Fatal(e)
	}
	for who := range 2 {
		if l, e := h.Lines(who); len(l) != 0 || e != api.OK {
			t.Error(l, e)
		}
	}
	p, _ := scene.Play(s)
	if !pick.Same(p, h.Play()) {
		t.Error("another Play")
	}
	s.Cues = []api.Cue{turn(2)}
	if h, e := New(s); h != nil || e != api.ErrArg {
		t.Error(h, e)
	}
	if h, e := New(api.Scene{}); h != nil || e != api.ErrArg {
		t.Error(h, e)
	}
}

func TestP31_1Do(t *testing.T) {
	h := build(t, "side 0\n"+example)
	if l, e := h.Do(); len(l) != 0 || e != api.OK {
		t.Error(l, e)
	}
	got := do(t, h, turn(0), edge(1), edge(1), turn(1), turn(0), turn(0), ask("holds", num(0)), ask("lines", num(0)), ask("parts"))
	want := []string{"0: x = _", "edge 1: cut", "edge 1: -", "1: x = #2", "0: y = #2", "0: -", "= #1 #2", "= x = _", "= y = #2", "= 0 1 #1 #2 #3"}
	if !slices.Equal(got, want) {
		t.Error(got)
	}
	args := []api.Value{list(num(1))}
	for i, wrong := range []api.Cue{turn(2), turn(-1), edge(2), edge(-1), {Turn: api.Turn{Who: 1, Edge: 1}}, {Ask: api.Quest{Args: args}}, {Turn: api.Turn{Who: 1}, Ask: api.Quest{Word: "parts"}}, ask("A"), ask("parts", ref(0)), ask("parts", make([]api.Value, 9)...)} {
		h := build(t, "side 0\n"+example)
		before := h.Copy()
		if l, e := h.Do(turn(0), wrong); l != nil || e != api.ErrArg || !pick.Same(h.Play(), before.Play()) {
			t.Error(i, l, e)
		}
	}
	// More than a scene may have: only of each it is asked whether it may be.
	many := slices.Repeat([]api.Cue{ask("whole")}, api.MaxCues+1)
	if l, e := h.Do(many...); len(l) != len(many) || e != api.OK {
		t.Error(len(l), e)
	}
	if l, e := h.Do(append(many, turn(2))...); l != nil || e != api.ErrArg {
		t.Error(len(l), e)
	}
	for _, z := range []*House{nil, {}} {
		if l, e := z.Do(turn(9)); l != nil || e != api.ErrNil {
			t.Error(l, e)
		}
	}
}

func TestP31_2LinesPlayCopyScene(t *testing.T) {
	h := build(t, example)
	do(t, h, turn(0), turn(1), ask("sweep"), turn(1), turn(1))
	l, e := h.Lines(1)
	if !slices.Equal(l, []string{"x = #2", "z = _"}) || e != api.OK {
		t.Error(l, e)
	}
	l[0] = "turned"
	if again, _ := h.Lines(1); again[0] != "x = #2" {
		t.Error("lines share memory")
	}
	for _, who := range []int{-1, 2} {
		if l, e := h.Lines(who); l != nil || e != api.ErrArg {
			t.Error(l, e)
		}
	}
	c := h.Copy()
	do(t, c, turn(0), ask("sweep"))
	if l, _ := h.Lines(0); len(l) != 1 || h.Play().Len() != 1 {
		t.Error("the copy is the same", l)
	}
	h.Play().Turn(api.Turn{Who: 0})
	if h.Play().Len() != 1 {
		t.Error("the Play is the house's own")
	}
	s, e := h.Scene(turn(0), ask("x"))
	if e != api.OK || len(s.Cues) != 2 || len(s.Subjects[1].Code) != 0 {
		t.Error(s, e)
	}
	if want, _ := scene.Of(h.Play(), turn(0), ask("x")); !scene.Same(s, want) {
		t.Error(s)
	}
	if s, e := h.Scene(turn(7)); e != api.ErrArg || !reflect.DeepEqual(s, api.Scene{}) {
		t.Error(s, e)
	}
	for _, z := range []*House{nil, {}} {
		l, e := z.Lines(0)
		s, f := z.Scene(turn(9))
		if l != nil || e != api.ErrNil || f != api.ErrNil || !reflect.DeepEqual(s, api.Scene{}) || z.Play() != nil || z.Copy() != nil {
			t.Error(l, e, f)
		}
	}
}

func TestP31_3Run(t *testing.T) {
	tells(t, example+`ask may 1 "give" #2
turn 0
turn 1
turn 1
ask why 1 #2
ask lines 1
turn 1
ask holds 1
`, "= may", "0: x = _", "1: x = #2", "1: z = _", "= 0 #2 begin", "= #1 #2 1.0", "= 1 #2 2.0", "= x = #2", "= z = _", "1: -", "= #2 #3")
	tells(t, "")
	for _, p := range []struct {
		text     string
		line, at int
		e        api.Errno
	}{{"turn 0", 0, 0, api.ErrArg}, {"\nside", 2, 4, api.ErrScene}, {"subject 0 { x x = make seal }", 1, 12, api.ErrCode}, {strings.Repeat(" ", api.MaxScene+1), 0, 0, api.ErrLong}} {
		if out, line, at, e := Run(p.text); out != nil || line != p.line || at != p.at || e != p.e {
			t.Errorf("%.40q %v %v %v %v", p.text, out, line, at, e)
		}
	}
	if out, e := All(api.Scene{}); out != nil || e != api.ErrArg {
		t.Error(out, e)
	}
	s := read(t, example+"turn 1\nask holds 1")
	if out, e := All(s); !slices.Equal(out, []string{"1: x = 7", "= #3"}) || e != api.OK {
		t.Error(out, e)
	}
	want := strings.Fields("lines holds reach path parts able free sum may wants why twin parted live sweep snap tight torn whole")
	words := Words()
	if !slices.Equal(words, want) {
		t.Error(words)
	}
	words[0] = "turned"
	if Words()[0] != "lines" {
		t.Error("words share memory")
	}
	for _, w := range Words() {
		if questions()[w] == nil {
			t.Error(w)
		}
	}
	if len(questions()) != len(Words()) {
		t.Error(len(questions()))
	}
}

// The ten examples of the whole.
func TestExamples(t *testing.T) {
	tells(t, "#1 cell 0 7\nsubject 0 { x = get c } c = #1\nturn 0", "0: x = 7")
	tells(t, "#1 cell 0 7\nsubject 0 { x = take c 1 } c = #1\nturn 0", "0: fault 6")
	tells(t, "#1 cell 0 7\n#2 facet #1 get\nsubject 0 { y = put f 5 ; x = get f } f = #2\nturn 0\nturn 0", "0: fault 6", "0: x = 7")
	tells(t, "#1 cell 0 7\nsubject 0 { f = make facet c get ; g = make facet f get ; if same f g { } else { } } c = #1\nturn 0\nturn 0\nturn 0", "0: f = #2", "0: g = #2", "0: then")
	tells(t, "#1 cell 0 7\n#3 gate 0 #1 #4\n#4 switch 0 open #3\nsubject 0 { a = cut s } s = #4\nsubject 0 { x = get g } g = #3\nturn 0\nturn 1", "0: a = _", "1: fault 7")
	tells(t, "side 0\n#1 cell 1 7\nsubject 0 { x = get c ; x = get c } c = #1\nturn 0\nedge 1\nturn 0", "0: x = 7", "edge 1: cut", "0: fault 7")
	tells(t, "#1 cell 0 7\n#2 log 0 [ ]\n#3 facet #1 get\nsubject 0 { } c = #3 , l = #2\nsubject 0 { } g = #3\nask may 1 \"give\" #2", "= never 13 276")
	tells(t, "#1 mint 0 30 0\n#2 purse 0 #1 10\n#3 purse 0 #1 20\nsubject 0 { x = give p q ; y = get p ; z = get q } p = #2 , q = #3\nask whole\nturn 0\nask whole\nturn 0\nturn 0", "= yes", "0: x = _", "= yes", "0: y = 30", "0: z = 0")
	tells(t, "#1 log 0 [ ]\n#2 clerk 0 { x = give l it ; fail } l = #1\nsubject 0 { x = ask k 5 ; y = get l } k = #2 , l = #1\nturn 0\nturn 0", "0: fault 140", "0: y = []")
}

// stage is a scene in which each question has something to tell.
const stage = `side 0
last 40
#3 cell 0 7
#5 log 1 [ ]
#6 facet #3 get
#7 mint 0 30 0
#8 purse 0 #7 10
#9 purse 0 #7 20
#10 sealer 0
#11 box 0 #10 #5
#12 tally 1 0
subject 0 { x = put c l ; y = give p 1 } c = #3 , l = #5 , p = #8
subject 1 { x = get g ; z = give x 5 ; reply [ x g ] } g = #6 seen [ 6 33 ]
subject 0 { }
`

func TestP31_3Answers(t *testing.T) {
	tells(t, stage+"ask lines 0\nask holds 0\nask holds 2\nask reach 1\nask reach 2\nask path 0 #5\nask path 1 #3\nask path 1 #5\nask path 2 #5", "= -", "= #3 #5 #8", "= -", "= #3 #6", "= -", "= #5", "= #6 #3", "= -", "= -")
	tells(t, stage+"ask parts", "= 0 1 #3 #5 #6 #7 #8 #9 #10 #11", "= 2", "= #12")
	tells(t, "ask parts\nask wants\nask live\nask sweep\nask tight\nask whole\nask twin", "= -", "= -", "= -", "= -", "= -", "= yes", "= alike")
	tells(t, stage+"ask able #3\nask able #6\nask able #11\nask free 0 #5\nedge 1\nask free 0 #5\nask free 1 #5\nask free 1 #6", "= get+put", "= get", "= -", "= open", "edge 1: cut", "= cut", "= open", "= cut")
	tells(t, stage+"ask sum #7\nask sweep\nask sum #7\nask whole", "= 30 0 30", "= #9 #10 #11 #12", "= 10 20 30", "= yes")
	tells(t, "#1 mint 0 3 0\nask whole\nask sum #1", "= no", "= 0 0 3")
	tells(t, stage+"ask live\nask tight\nask holds 1\nask live", "= #3 #5 #6 #7 #8", "= #3 #5 #6 #7 #8 #9 #10 #11 #12 #33", "= #3", "= #1 #2 #3 #4 #5")
	tells(t, stage+"turn 0\nask torn 100000\nturn 1\nturn 2\nturn 0\nask torn 100000\nask torn 7\nask torn 0\nask why 1 #5\nask why 2 #5\nask why 1 #6", "0: x = _", "= 1", "1: x = #3", "2: -", "0: fault 100", "= 3", "= -", "= -", "= 0 #5 begin", "= #3 #5 1.0", "= 1 #5 2.0", "= -", "= 1 #6 begin")
	tells(t, stage+"turn 0\nask snap\nask why 0 #5\nask torn 100000\nturn 1\nask torn 100000\nask lines 1", "0: x = _", "= "+bytesOf(t, stage+"turn 0"), "= 0 #5 begin", "= 0", "1: x = #3", "= 1", "= x = #3")
	tells(t, stage+"ask twin\nturn 0\nturn 1\nask twin\nask parted 1 0\nask parted 1 1 0 1 1\nedge 1\nturn 1\nask twin", "= alike", "0: x = _", "1: x = #3", "= alike", "= alike", "= alike", "edge 1: cut", "1: z = _", "= alike")
	tells(t, "#1 log 0 [ ]\nside 0\nside 0\nsubject 1 { x = give l 1 } l = #1\nedge 1\nturn 0\nask twin\nask sweep\nask twin", "edge 1: cut", "0: fault 7", "= 0 0", "= -", "= -")
	tells(t, "#1 cell 0 1\n#2 facet #1 put\nsubject 0 { } c = #2\nask wants", "= 0 - #1", "= 0 put #1")
}

// bytesOf tells how many bytes snap has of the Play behind a scene's cues.
func bytesOf(t *testing.T, text string) string {
	t.Helper()
	s := read(t, text)
	h, _ := New(s)
	h.Do(s.Cues...)
	b, e := snap.Write(h.Play())
	if e != api.OK {
		t.Fatal(e)
	}
	return strconv.Itoa(len(b))
}

func TestP31_3NoQuestion(t *testing.T) {
	h := build(t, stage)
	before := h.Copy()
	for _, c := range []api.Cue{ask("what"), ask("lines"), ask("lines", num(3)), ask("lines", num(-1)), ask("lines", num(0), num(0)), ask("lines", ref(3)), ask("holds"), ask("holds", txt("0")), ask("reach", num(9)), ask("reach", num(1<<40)), ask("path", num(0)), ask("path", num(0), num(3)), ask("path", num(0), ref(4)), ask("path", num(0), ref(3), ref(3)), ask("path", ref(3), num(0)),
		ask("parts", num(0)), ask("able"), ask("able", ref(33)), ask("able", num(3)), ask("free", num(2), ref(3)), ask("free", num(-1), ref(3)), ask("free", num(0), ref(99)), ask("free", ref(3), num(0)), ask("sum", ref(8)), ask("sum", ref(99)), ask("sum"), ask("sum", num(7)),
		ask("may", num(0), txt("get+put"), ref(3)), ask("may", num(0), txt("-"), ref(3)), ask("may", num(0), txt("Get"), ref(3)), ask("may", num(0), ref(3), txt("get")), ask("may", num(3), txt("get"), ref(3)), ask("may", num(0), txt("get"), ref(4)), ask("may", num(0), txt("get")), ask("may", num(0), txt("get"), ref(3), num(0)), ask("wants", num(0)),
		ask("why", num(0)), ask("why", num(3), ref(3)), ask("why", num(0), ref(33)), ask("twin", num(0)), ask("parted"), ask("parted", num(0), num(0)), ask("parted", num(2), num(0)), ask("parted", num(1)), ask("parted", num(1), num(2)), ask("parted", num(1), num(0), num(0), num(3)), ask("parted", num(1), num(0), ref(3)), ask("parted", num(1), num(0), num(3), num(0)),
		ask("live", num(0)), ask("sweep", num(0)), ask("snap", num(0)), ask("tight", ref(3)), ask("torn"), ask("torn", num(-1)), ask("torn", ref(3)), ask("torn", num(1), num(1)), ask("whole", num(0)), ask("lines", list()), ask("lines", api.Value{})} {
		if got := do(t, h, c); !slices.Equal(got, []string{"= error 310"}) || !pick.Same(h.Play(), before.Play()) {
			t.Error(c, got)
		}
	}
}

// A layer's error is told with its number, and nothing is changed.
func TestP31_3LayersErrors(t *testing.T) {
	var text strings.Builder
	for side := range api.MaxSides - 1 {
		text.WriteString("side " + strconv.Itoa(side) + "\n")
	}
	for i := range 600 {
		text.WriteString("#" + strconv.Itoa(i+1) + " sealer " + strconv.Itoa(i%16) + "\n")
	}
	text.WriteString("subject 0 { }\n")
	h := build(t, text.String())
	before := h.Copy()
	got := do(t, h, ask("wants"), ask("may", num(0), txt("get"), ref(1)))
	if want := "= error " + strconv.Itoa(int(api.ErrMany)); !slices.Equal(got, []string{want, want}) || !pick.Same(h.Play(), before.Play()) {
		t.Error(got)
	}
}

// random makes the text of a scene by chance, without cues, and how many subjects it has.
func random(r *rand.Rand) (string, int) {
	things := []string{"#1 cell S 7", "#2 log S [ ]", "#3 queue S [ 5 #1 ]", "#4 tally 1 0", "#5 sealer 1", "#6 opener 1 #5", "#7 box 1 #5 [ #2 ]", "#8 mint S2 30 0", "#9 purse S2 #8 10", "#10 purse S2 #8 20", "#11 promise 0", "#12 keeper 0 #11", "#13 clerk S { x = give l it ; y = get c ; if can y give { fail } else { } ; reply [ y it ] } c = #1 , l = #2", "#14 switch 2 open #15", "#15 gate 2 #1 #14", "#16 tap 1 #2 #4", "#17 facet #2 get", "#18 facet #15 put", "#19 cell S #17"}
	var b strings.Builder
	b.WriteString("side 0\nside 0\n")
	mints := strconv.Itoa(r.Intn(3))
	for _, x := range things {
		x = strings.ReplaceAll(x, "S2", mints)
		b.WriteString(strings.ReplaceAll(x, " S", " "+strconv.Itoa(r.Intn(3))) + "\n")
	}
	code := []string{"x = get a", "y = get b", "x = put a b", "x = put b c", "y = take a 1", "x = give a b", "z = give b y", "x = ask a b", "y = ask b c", "s o = make seal", "l = make log", "g h = make gate a", "t n = make tap b", "z = cut c", "v = await a", "reply [ a b x ]", "f = make facet a get + put", "f = make facet b _", "if same a b { x = 1 } else { a = b }", "if can x get { z = get x } else { x = y }", "k = make clerk [ a b ] { x = get a ; reply [ x it ] }", "fail", "m = make cell [ a x ]", "z = part y 0", "a = z", "p q = make promise", "w = ask o x", "w = ask s [ a b ]"}
	n := 1 + r.Intn(4)
	for range n {
		var c, names []string
		for range r.Intn(8) {
			c = append(c, code[r.Intn(len(code))])
		}
		for _, name := range []string{"a", "b", "c"} {
			names = append(names, name+" = #"+strconv.Itoa(1+r.Intn(len(things))))
		}
		b.WriteString("subject " + strconv.Itoa(r.Intn(3)) + " { " + strings.Join(c, " ; ") + " } " + strings.Join(names, " , ") + "\n")
	}
	return b.String(), n
}

// question asks something by chance; what is no question too.
func someQuestion(r *rand.Rand, h *House) api.Cue {
	var things []api.Ref
	for n := range h.Play().World().Things() {
		things = append(things, n)
	}
	thing := ref(9)
	if len(things) > 0 {
		thing = ref(things[r.Intn(len(things))])
	}
	who := num(int64(r.Intn(len(h.lines))))
	able := txt([]string{"get", "put", "take", "give", "ask", "cut"}[r.Intn(6)])
	switch w := Words()[r.Intn(len(Words()))]; w {
	case "lines", "holds", "reach":
		return ask(w, who)
	case "path", "why":
		return ask(w, who, thing)
	case "able", "sum":
		return ask(w, thing)
	case "free":
		return ask(w, num(int64(r.Intn(3))), thing)
	case "may":
		return ask(w, who, able, thing)
	case "parted":
		return ask(w, num(int64(1+r.Intn(2))), num(int64(r.Intn(3))), who, who, num(0))
	case "torn":
		return ask(w, num(int64(r.Intn(3000))))
	default:
		return ask(w)
	}
}

func someTurn(r *rand.Rand, subjects int) api.Cue {
	if r.Intn(12) == 0 {
		return edge(1 + r.Intn(2))
	}
	return turn(r.Intn(subjects))
}

func TestP31_4NobodyCanTell(t *testing.T) {
	r := rand.New(rand.NewSource(1))
	for range 120 {
		text, n := random(r)
		h, quiet := build(t, text), build(t, text)
		for range 25 {
			for range r.Intn(3) {
				c := someQuestion(r, h)
				for _, line := range do(t, h, c) {
					if !strings.HasPrefix(line, "= ") {
						t.Error(c, line)
					}
				}
			}
			c := someTurn(r, n)
			if a, b := do(t, h, c), do(t, quiet, c); !slices.Equal(a, b) || len(a) != 1 {
				t.Fatal(text, c, a, b)
			}
		}
		for who := range n {
			a, _ := h.Lines(who)
			b, _ := quiet.Lines(who)
			whole, _ := quiet.Play().Lines(who)
			if !slices.Equal(a, b) || !slices.Equal(b, whole) {
				t.Error(text, a, b, whole)
			}
		}
	}
}

func TestP31_5Cues(t *testing.T) {
	r := rand.New(rand.NewSource(2))
	for range 60 {
		text, n := random(r)
		h := build(t, text)
		var first, then []api.Cue
		for range 8 {
			first = append(first, someTurn(r, n), someQuestion(r, h))
		}
		for range 5 {
			then = append(then, someTurn(r, n))
			if c := someQuestion(r, h); !slices.Contains([]string{"lines", "why", "twin", "torn"}, c.Ask.Word) {
				then = append(then, c)
			}
		}
		both := do(t, h.Copy(), slices.Concat(first, then)...)
		a := do(t, h, first...)
		s, e := h.Scene(then...)
		b := do(t, h, then...)
		if !slices.Equal(both, slices.Concat(a, b)) {
			t.Error(text, both, a, b)
		}
		if again, f := All(s); e != api.OK || f != api.OK || !slices.Equal(again, b) {
			t.Error(text, then, b, again)
		}
	}
}

// A question that goes on with the same Play changes nothing; the others go on with one that has no history.
func TestP31_5Questions(t *testing.T) {
	r := rand.New(rand.NewSource(3))
	for range 150 {
		text, n := random(r)
		h := build(t, text)
		for range 5 {
			do(t, h, someTurn(r, n))
		}
		before := h.Copy()
		c := someQuestion(r, h)
		do(t, h, c)
		p := h.Play()
		switch c.Ask.Word {
		case "sweep", "snap", "tight":
			if p.Len() != 0 || len(p.Subjects()) != n {
				t.Error(c, p.Len())
			}
			if c.Ask.Word == "snap" {
				old := before.Play()
				if same, _ := pick.New(old.World(), old.Subjects()...); !pick.Same(same, p) {
					t.Error("snap is another Play")
				}
			}
		default:
			if !pick.Same(p, before.Play()) || !reflect.DeepEqual(h.lines, before.lines) {
				t.Error(c)
			}
		}
	}
}

func TestP31_6AsTheLayersSay(t *testing.T) {
	r := rand.New(rand.NewSource(4))
	nevers := 0
	for range 60 {
		text, n := random(r)
		h := build(t, text)
		cut := false
		for range 12 {
			c := someTurn(r, n)
			cut = cut || c.Turn.Edge != 0
			do(t, h, c)
			p := h.Play()
			if got := do(t, h, ask("whole")); got[0] != "= yes" {
				t.Error(text, got)
			}
			if got := do(t, h, ask("parted", num(int64(1+r.Intn(2))), num(int64(r.Intn(3))), num(int64(r.Intn(n))), num(int64(r.Intn(n))))); got[0] != "= alike" {
				t.Error(text, got)
			}
			if got := do(t, h, ask("twin")); !cut && got[0] != "= alike" {
				t.Error(text, got)
			}
			q := someQuestion(r, h)
			if q.Ask.Word != "may" {
				continue
			}
			a, _ := readAble(q.Ask.Args[1].S)
			x := api.Question{By: int(q.Ask.Args[0].N), Able: a, Thing: q.Ask.Args[2].R}
			said, _ := never.Ask(p.World(), x, p.Subjects()...)
			got := do(t, h, q)
			if strings.HasPrefix(got[0], "= never ") != said {
				t.Error(text, q, got)
			}
			if said {
				nevers++
				cert, _ := never.Make(p.World(), x, p.Subjects()...)
				if !strings.HasSuffix(got[0], " "+strconv.Itoa(len(cert))) {
					t.Error(got, len(cert))
				}
			}
		}
	}
	if nevers == 0 {
		t.Error("nothing never comes about")
	}
}

func readAble(s string) (api.Able, bool) {
	i := slices.Index([]string{"get", "put", "take", "give", "ask", "cut"}, s)
	return 1 << i, i >= 0
}

// As many turns are whole as stand ahead of where the journal was cut off.
func TestP31_6Torn(t *testing.T) {
	r := rand.New(rand.NewSource(5))
	for range 20 {
		text, n := random(r)
		h := build(t, text)
		for range 10 {
			do(t, h, someTurn(r, n))
		}
		p := h.Play()
		begin, _ := p.Begin()
		j, _ := journal.New(begin)
		size := int64(len(j.Bytes()))
		for at := range int64(12 * (p.Len() + 2)) {
			want := strconv.Itoa(int(min(int64(p.Len()), at/12)))
			if got := do(t, h, ask("torn", num(size+at))); got[0] != "= "+want {
				t.Error(at, got, want)
			}
		}
		if got := do(t, h, ask("torn", num(size-1))); got[0] != "= -" {
			t.Error(got)
		}
	}
}
