package scene

import (
	"math/rand"
	"reflect"
	"slices"
	"strings"
	"testing"

	"postern/api"
	"postern/code"
	"postern/lang"
	"postern/pick"
	"postern/run"
	"postern/world"
)

func num(n int64) api.Value         { return api.Value{Kind: api.Number, N: n} }
func ref(r api.Ref) api.Value       { return api.Value{Kind: api.Reference, R: r} }
func list(l ...api.Value) api.Value { return api.Value{Kind: api.List, L: l} }
func turn(n int) api.Cue            { return api.Cue{Turn: api.Turn{Who: n}} }
func edge(n int) api.Cue            { return api.Cue{Turn: api.Turn{Edge: n}} }
func ask(w string, l ...api.Value) api.Cue {
	return api.Cue{Ask: api.Quest{Word: w, Args: l}}
}

func stmts(t *testing.T, s string) []api.Stmt {
	t.Helper()
	c, at, e := lang.Read(s)
	if e != api.OK {
		t.Fatal(s, at, e)
	}
	return c
}

const example = `side 0
#1 cell 0 [ 7 #2 ]
#2 log 1 [ ]
#4 facet #1 get
subject 1 { x = get c ; reply x } c = #4
-- a line that says nothing
turn 0
ask lines 0
turn 0
`

func read(t *testing.T, text string) api.Scene {
	t.Helper()
	s, line, at, e := Read(text)
	if e != api.OK || line != 0 || at != 0 {
		t.Fatal(text, line, at, e)
	}
	return s
}

func exampleScene(t *testing.T) api.Scene {
	return api.Scene{
		World:    api.World{Parents: []api.Side{0}, Things: []api.Entry{{Ref: 1, What: api.What{Kind: api.Cell, Value: list(num(7), ref(2))}}, {Ref: 2, What: api.What{Kind: api.Log, Home: 1}}, {Ref: 4, What: api.What{Kind: api.Facet, Of: 1, Set: api.Get}}}, Last: 4, Made: []int{1, 1}},
		Subjects: []api.Subject{{Side: 1, Code: stmts(t, "x = get c ; reply x"), Names: []api.Name{{Name: "c", Value: ref(4)}}, Seen: []api.Ref{4}}},
		Cues:     []api.Cue{turn(0), ask("lines", num(0)), turn(0)},
	}
}

func TestP30_1Check(t *testing.T) {
	s := exampleScene(t)
	if Check(s) != api.OK || Check(api.Scene{World: api.World{Made: []int{0}}}) != api.OK {
		t.Error("may be")
	}
	var many []api.Cue
	for range api.MaxCues {
		many = append(many, turn(0))
	}
	s.Cues = many
	if Check(s) != api.OK {
		t.Error("as many cues as may be")
	}
	clerk := func(x api.What) func(s *api.Scene) {
		return func(s *api.Scene) {
			x.Kind = api.Clerk
			s.World.Things = append(slices.Clone(s.World.Things), api.Entry{Ref: 5, What: x})
			s.World.Last, s.World.Made = 5, []int{2, 1}
		}
	}
	good := exampleScene(t)
	clerk(api.What{})(&good)
	if Check(good) != api.OK {
		t.Error("a clerk")
	}
	for i, wrong := range []func(s *api.Scene){func(s *api.Scene) { s.World = api.World{} }, func(s *api.Scene) { s.Subjects[0].Side = 2 }, func(s *api.Scene) { s.Subjects = slices.Repeat(s.Subjects, 33) }, func(s *api.Scene) { s.Subjects[0].Code = []api.Stmt{{}} }, func(s *api.Scene) { s.Subjects[0].Seen = nil }, clerk(api.What{Code: []api.Stmt{{}}}), clerk(api.What{Names: []api.Name{{Name: "A"}}}),
		func(s *api.Scene) { s.Cues = append(many, turn(0)) }, func(s *api.Scene) { s.Cues[0] = turn(1) }, func(s *api.Scene) { s.Cues[0] = turn(-1) }, func(s *api.Scene) { s.Cues[0] = edge(2) }, func(s *api.Scene) { s.Cues[0] = edge(-1) }, func(s *api.Scene) { s.Cues[0].Turn.Edge, s.Cues[0].Turn.Who = 1, 1 },
		func(s *api.Scene) { s.Cues[0].Ask.Args = []api.Value{{}} }, func(s *api.Scene) { s.Cues[1].Turn.Who = 1 }, func(s *api.Scene) { s.Cues[1] = ask("A") }, func(s *api.Scene) { s.Cues[1] = ask("lines", ref(0)) }, func(s *api.Scene) { s.Cues[1] = ask("lines", make([]api.Value, 9)...) }} {
		s := exampleScene(t)
		wrong(&s)
		p, e := Play(s)
		text, f := Text(s)
		if Check(s) != api.ErrArg || p != nil || e != api.ErrArg || text != "" || f != api.ErrArg || Same(s, s) || Same(s, good) || Same(good, s) {
			t.Error(i, e, f)
		}
	}
	s = exampleScene(t)
	s.Cues = []api.Cue{ask("any", make([]api.Value, 8)...), edge(1)}
	if Check(s) != api.OK {
		t.Error("any word")
	}
}

func TestP30_1PlayOfSame(t *testing.T) {
	s := exampleScene(t)
	p, e := Play(s)
	if e != api.OK || p.Len() != 0 || len(p.Subjects()) != 1 || p.World().Len() != 3 {
		t.Fatal(e)
	}
	big := list(make([]api.Value, 400)...)
	args := []api.Value{big, big}
	o, e := Of(p, ask("x", args...), turn(0))
	if e != api.OK || len(o.Cues) != 2 || len(o.Cues[0].Ask.Args) != 2 {
		t.Fatal(e)
	}
	args[0].L[0] = num(1)
	if o.Cues[0].Ask.Args[1].L[0].Kind != api.Nothing {
		t.Error("kept what was handed in")
	}
	if o, e := Of(p, turn(1)); e != api.ErrArg || !reflect.DeepEqual(o, api.Scene{}) {
		t.Error(e)
	}
	for _, z := range []*pick.Play{nil, {}} {
		if o, e := Of(z, turn(9)); e != api.ErrNil || !reflect.DeepEqual(o, api.Scene{}) {
			t.Error(e)
		}
	}
	w, _ := world.New()
	w.Make(api.What{Kind: api.Clerk, Code: []api.Stmt{{}}})
	q, _ := pick.New(w)
	if _, e := Of(q); e != api.ErrArg {
		t.Error(e)
	}
	if !Same(s, exampleScene(t)) {
		t.Error("same")
	}
	for i, turned := range []func(s *api.Scene){func(s *api.Scene) { s.World.Last = 5 }, func(s *api.Scene) { s.World.Cuts = []int{1} }, func(s *api.Scene) { s.Subjects[0].Side = 0 }, func(s *api.Scene) { s.Subjects[0].Code = nil }, func(s *api.Scene) { s.Subjects[0].Seen = []api.Ref{1, 4} }, func(s *api.Scene) { s.Subjects[0].Names[0].Name = "d" }, func(s *api.Scene) { s.Cues = nil }, func(s *api.Scene) { s.Cues[0] = edge(1) }, func(s *api.Scene) { s.Cues[1].Ask.Args[0] = num(1) }} {
		o := exampleScene(t)
		turned(&o)
		if Check(o) != api.OK || Same(s, o) {
			t.Error(i)
		}
	}
}

// all is a text with each sentence.
const all = `side 0
side 1
cut 2
last 30
made 0 20
made 2 1
#1 cell 0 [ 7 #2 ]
#2 log 1 [ _ "a\"b" ]
#3 queue 0 [ [ 1 ] #1 ]
#4 tally 0 5
#5 sealer 0
#6 opener 0 #5
#7 box 0 #5 #1
#8 mint 0 9 2
#9 purse 0 #8 7
#10 promise 0
#11 promise 0 _
#12 promise 0 #1
#13 keeper 0 #10
#14 clerk 0 { if same it 5 { reply c } else { fail } ; x = put c it } c = #1 , d = [ 1 ]
#15 clerk 1 { }
#16 switch 0 open #19
#17 switch 0 cut
#18 switch 0 cut #20
#19 gate 0 #1 #16
#20 gate 0 #19 #18
#21 tap 0 #20 #4
#22 facet #1 get
#23 facet #9 get + take
#24 facet #1 _
subject 0 { } 
subject 2 { f = make facet c get + put ; g h = make gate f } c = #22 , a = [ #1 #1 #9 ]
subject 1 { reply x } seen [ 30 2 ]
subject 1 { } x = 1 seen [ 5 ]
edge 1
turn 3
ask why 0 #1 "give"
ask words
`

func TestP30_2Text(t *testing.T) {
	want := strings.ReplaceAll(strings.ReplaceAll(all, "{ } \n", "{ }\n"), "-- a line that says nothing\n", "")
	if s, e := Text(read(t, all)); s != want || e != api.OK {
		t.Error(s, e)
	}
	if s, e := Text(exampleScene(t)); s != strings.ReplaceAll(example, "-- a line that says nothing\n", "") || e != api.OK {
		t.Error(s, e)
	}
	if s, e := Text(api.Scene{World: api.World{Made: []int{0}}}); s != "" || e != api.OK {
		t.Error(s, e)
	}
	big := api.Scene{World: api.World{Made: []int{9}, Last: 9}}
	v := list()
	for range 500 {
		v.L = append(v.L, api.Value{Kind: api.Text, S: strings.Repeat("a", 256)})
	}
	for i := range 8 {
		big.World.Things = append(big.World.Things, api.Entry{Ref: api.Ref(i + 1), What: api.What{Kind: api.Cell, Value: v}})
	}
	if s, e := Text(big); len(s) < 1000000 || e != api.OK {
		t.Error(len(s), e)
	}
	big.World.Things = append(big.World.Things, api.Entry{Ref: 9, What: api.What{Kind: api.Cell, Value: v}})
	if s, e := Text(big); s != "" || e != api.ErrLong {
		t.Error(len(s), e)
	}
}

func TestP30_3Read(t *testing.T) {
	if s := read(t, ""); !reflect.DeepEqual(s, api.Scene{World: api.World{Made: []int{0}}}) {
		t.Error(s)
	}
	if s := read(t, example); !Same(s, exampleScene(t)) {
		t.Error(s)
	}
	if s := read(t, "subject 0 {\nx = 1 ;\n-- so\n\n  \ny = 2 }"); !code.Same(s.Subjects[0].Code, stmts(t, "x = 1 ; y = 2")) {
		t.Error(s)
	}
	if s := read(t, "#1 clerk 0 { reply it } me = #1 , n = 2"); len(s.World.Things[0].What.Names) != 2 {
		t.Error(s)
	}
	if s := read(t, "subject 0 { } seen = 3 , x = 1 seen [ ]"); len(s.Subjects[0].Names) != 2 || s.Subjects[0].Names[0].Name != "seen" {
		t.Error(s)
	}
	if s := read(t, "#7 log 0 [ ]\nmade 0 1\nlast 7\nsubject 0 { } x = #7 seen [ 7 ]"); s.World.Last != 7 || !slices.Equal(s.Subjects[0].Seen, []api.Ref{7}) {
		t.Error(s)
	}
	for _, p := range []struct {
		s        string
		line, at int
		e        api.Errno
	}{
		{"side", 1, 4, api.ErrScene}, {"side 0 0", 1, 7, api.ErrScene}, {"#0 cell 0 1", 1, 0, api.ErrForm}, {"cell 0 1", 1, 0, api.ErrScene}, {"#1 box 0 1", 1, 9, api.ErrScene}, {"subject 0 { x = }", 1, 16, api.ErrSyntax}, {"subject 0 { x = put y }", 1, 22, api.ErrSyntax}, {"subject 0 { x = 1", 1, 17, api.ErrSyntax},
		{"#1 cell 0 #9", 0, 0, api.ErrArg}, {"side 1", 0, 0, api.ErrArg}, {"turn 0", 0, 0, api.ErrArg}, {"--\n\n -- x", 3, 1, api.ErrForm}, {"\n\n  side 0 x", 3, 9, api.ErrScene}, {"-", 1, 0, api.ErrForm}, {"side \"0\"", 1, 5, api.ErrScene}, {"\"side\" 0", 1, 0, api.ErrScene}, {"5", 1, 0, api.ErrScene}, {"#1", 1, 2, api.ErrScene}, {"#1 side 0", 1, 3, api.ErrScene}, {"#1 \"cell\" 0 1", 1, 3, api.ErrScene},
		{"#1 cell", 1, 7, api.ErrScene}, {"#1 cell 0", 1, 9, api.ErrScene}, {"#1 cell 0 x", 1, 10, api.ErrScene}, {"#1 cell 0 [ 1", 1, 13, api.ErrScene}, {"#1 cell 0 1 2", 1, 12, api.ErrScene}, {"#1 log 0 5", 1, 9, api.ErrScene}, {"#1 log 0 [ x ]", 1, 11, api.ErrScene}, {"#1 log 0", 1, 8, api.ErrScene}, {"#1 tally 0 #1", 1, 11, api.ErrScene}, {"#1 sealer 0 #1", 1, 12, api.ErrScene}, {"#1 opener 0 1", 1, 12, api.ErrScene}, {"#1 mint 0 1", 1, 11, api.ErrScene}, {"#1 purse 0 #1", 1, 13, api.ErrScene},
		{"#1 promise 0 x", 1, 13, api.ErrScene}, {"#1 keeper 0", 1, 11, api.ErrScene}, {"#1 clerk 0", 1, 10, api.ErrScene}, {"#1 clerk 0 { } x", 1, 16, api.ErrScene}, {"#1 clerk 0 { } x =", 1, 18, api.ErrScene}, {"#1 clerk 0 { } x = 1 y = 2", 1, 21, api.ErrScene}, {"#1 clerk 0 { } x = 1 ,", 1, 22, api.ErrScene}, {"#1 clerk 0 { } seen [ 1 ]", 1, 20, api.ErrScene}, {"#1 switch 0", 1, 11, api.ErrScene}, {"#1 switch 0 shut", 1, 12, api.ErrScene}, {"#1 switch 0 open 1", 1, 17, api.ErrScene}, {"#1 gate 0 #1", 1, 12, api.ErrScene}, {"#1 tap 0 #1 #2 #3", 1, 15, api.ErrScene},
		{"#1 facet 0 #1 get", 1, 9, api.ErrScene}, {"#1 facet #1", 1, 11, api.ErrScene}, {"#1 facet #1 put + get", 1, 18, api.ErrScene}, {"#1 facet #1 get +", 1, 17, api.ErrScene}, {"#1 facet #1 cut + get", 1, 16, api.ErrScene}, {"#1 facet #1 cell", 1, 12, api.ErrScene}, {"#1 facet #1 _ + get", 1, 14, api.ErrScene}, {"#1 facet #1 get + get", 1, 18, api.ErrScene},
		{"subject", 1, 7, api.ErrScene}, {"subject 0", 1, 9, api.ErrScene}, {"subject 0 x", 1, 10, api.ErrScene}, {"subject 0 { } seen", 1, 18, api.ErrScene}, {"subject 0 { } seen 5", 1, 19, api.ErrScene}, {"subject 0 { } seen [ #1 ]", 1, 21, api.ErrScene}, {"subject 0 { } seen [ 1", 1, 22, api.ErrScene}, {"subject 0 { } seen [ 1 ] x = 1", 1, 25, api.ErrScene}, {"subject 0 { } x = 1 , seen [ 1 ]", 1, 27, api.ErrScene}, {"subject 0 { } x = 1 ; y = 2", 1, 20, api.ErrScene},
		{"turn", 1, 4, api.ErrScene}, {"turn x", 1, 5, api.ErrScene}, {"edge 1 2", 1, 7, api.ErrScene}, {"ask", 1, 3, api.ErrScene}, {"ask 5", 1, 4, api.ErrScene}, {"ask x y", 1, 6, api.ErrScene}, {"ask x [ 1", 1, 9, api.ErrScene}, {"last #1", 1, 5, api.ErrScene}, {"made 0", 1, 6, api.ErrScene}, {"cut", 1, 3, api.ErrScene},
		{"subject 0 {", 1, 11, api.ErrSyntax}, {"subject 0 {\n\n-- so\n", 1, 11, api.ErrSyntax}, {"subject 0 {\n x =\n\n--", 2, 4, api.ErrSyntax}, {"subject 0 { ] }", 1, 12, api.ErrSyntax}, {"subject 0 { x = 1 2 }", 1, 18, api.ErrSyntax}, {"subject 0 { x = 1 ; }", 1, 20, api.ErrSyntax}, {"subject 0 { x x = make seal }", 1, 12, api.ErrCode}, {"subject 0 {\ny = 1 ;\nx x = make seal }", 3, 0, api.ErrCode}, {"subject 0 { x x = make seal 5 }", 1, 12, api.ErrCode}, {"subject 0 { x x = make seal } }", 1, 12, api.ErrCode}, {"subject 0 { x = } }", 1, 16, api.ErrSyntax},
		{"#1 clerk 0 { x = ( } x", 1, 17, api.ErrSyntax}, {"subject x {\n A", 2, 1, api.ErrForm}, {"subject x {\n x", 1, 8, api.ErrScene}, {"subject 0 { } }", 1, 14, api.ErrScene}, {"} subject 0 {", 1, 0, api.ErrScene}, {"side {\nx = 1", 1, 5, api.ErrScene}, {"subject 0 { " + strings.Repeat("x=1;", 512) + "y=1 }", 1, 12 + 2048, api.ErrLong}, {"subject 0 { " + strings.Repeat("x=1;", 512) + "y=1", 1, 12 + 2048, api.ErrLong}, {"subject 0 { " + strings.Repeat("x=1;", 512) + "y=}", 1, 12 + 2050, api.ErrSyntax},
		{strings.Repeat(" ", api.MaxScene+1), 0, 0, api.ErrLong}, {strings.Repeat("x", api.MaxScene+1), 0, 0, api.ErrLong}, {"x\nA", 1, 0, api.ErrScene}, {"#1 cell 0 [ " + strings.Repeat("1 ", 512) + "]", 1, 12 + 2*511, api.ErrScene}, {"#1 cell 0 " + strings.Repeat("[", 17), 1, 26, api.ErrScene},
		{"last 1\nlast 1", 0, 0, api.ErrArg}, {"made 0 0\nmade 0 0", 0, 0, api.ErrArg}, {"made 1 0", 0, 0, api.ErrArg}, {"made -1 0", 0, 0, api.ErrArg}, {"side 0\nedge 0\nsubject 0 { }", 0, 0, api.ErrArg}, {"cut 0", 0, 0, api.ErrArg}, {"cut 1", 0, 0, api.ErrArg}, {"side 0\ncut 1\ncut 1", 0, 0, api.ErrArg}, {"#1 log 0 [ ]\n#1 log 0 [ ]", 0, 0, api.ErrArg}, {"#1 log 1 [ ]", 0, 0, api.ErrArg}, {"#1 log -1 [ ]", 0, 0, api.ErrArg}, {"last -1", 0, 0, api.ErrArg}, {"edge -1", 0, 0, api.ErrArg},
		{"turn -1", 0, 0, api.ErrArg}, {"subject 0 { } seen [ 1 ]", 0, 0, api.ErrArg}, {"subject 0 { } seen [ -1 ]", 0, 0, api.ErrArg}, {"subject -1 { }", 0, 0, api.ErrArg}, {"subject 0 { } a = 1 , a = 2", 0, 0, api.ErrArg}, {"#1 clerk 0 { } a = 1 , a = 2", 0, 0, api.ErrArg}, {"ask x 1 2 3 4 5 6 7 8 9", 0, 0, api.ErrArg}, {"#1 tally 0 -1", 0, 0, api.ErrArg}, {strings.Repeat("ask x\n", api.MaxCues+1), 0, 0, api.ErrArg}, {strings.Repeat("subject 0 { }\n", 33), 0, 0, api.ErrArg},
		{"turn 9223372036854775807", 0, 0, api.ErrArg}, {"#9223372036854775807 cell 0 1", 0, 0, api.ErrArg}, {"made 9223372036854775807 1", 0, 0, api.ErrArg},
	} {
		if s, line, at, e := Read(p.s); line != p.line || at != p.at || e != p.e || !reflect.DeepEqual(s, api.Scene{}) {
			t.Errorf("%.60q: got %v %v %v, wanted %v %v %v", p.s, line, at, e, p.line, p.at, p.e)
		}
	}
	if s := read(t, strings.Repeat("ask x\n", api.MaxCues)); len(s.Cues) != api.MaxCues {
		t.Error(len(s.Cues))
	}
}

// random makes a scene by chance.
func random(t *testing.T, r *rand.Rand) api.Scene {
	t.Helper()
	w, _ := world.New(0, 0)
	some := func() api.Ref { return api.Ref(1 + r.Intn(w.Len())) }
	w.Make(api.What{Kind: api.Cell})
	for range 8 {
		x := api.What{Kind: api.Kind(1 + r.Intn(16)), Home: api.Side(r.Intn(3))}
		switch x.Kind {
		case api.Cell:
			x.Value = list(ref(some()), num(-3), api.Value{Kind: api.Text, S: "\n\""})
		case api.Log, api.Queue:
			x.Values = []api.Value{ref(some()), list()}
		case api.Clerk:
			x.Code, x.Names = stmts(t, "if can a get { x = get a } else { } ; reply [ x it ]"), []api.Name{{Name: "a", Value: ref(some())}, {Name: "b"}}
		case api.Promise, api.Sealer, api.Mint:
			p, _ := w.Make(x)
			x.Kind, x.Of = map[api.Kind]api.Kind{api.Mint: api.Purse, api.Promise: api.Keeper, api.Sealer: api.Opener}[x.Kind], p
		case api.Gate:
			x.Of = some()
			x.By, _ = w.Make(api.What{Kind: api.Switch, Home: x.Home, Full: r.Intn(3) == 0})
		case api.Tap:
			x.Of = some()
			x.By, _ = w.Make(api.What{Kind: api.Tally, Home: x.Home, N: 4})
		case api.Facet:
			w.Facet(some(), []api.Able{0, api.Get, api.Put}[r.Intn(3)])
		}
		w.Make(x)
	}
	if r.Intn(3) == 0 {
		w.CutEdge(1 + r.Intn(2))
	}
	w.Drop(some())
	do := []string{"x = get a", "x = put a b", "y = take a 1", "x = ask a b", "s o = make seal", "l = make log", "g h = make gate a", "v = await a", "reply [ a b x ]", "f = make facet a get + put", "if same a b { x = 1 } else { a = b }", "k = make clerk [ a b ] { x = get a ; reply [ x it ] }", "fail"}
	var l []api.Subject
	for range r.Intn(4) {
		var c []string
		for range r.Intn(6) {
			c = append(c, do[r.Intn(len(do))])
		}
		var names []api.Name
		for q := range w.Things() {
			if r.Intn(5) == 0 {
				names = append(names, api.Name{Name: "n" + string(rune('a'+len(names))), Value: list(ref(q))})
			}
		}
		s, e := run.New(w, api.Side(r.Intn(3)), stmts(t, strings.Join(c, " ; ")), names)
		if e != api.OK {
			t.Fatal(e)
		}
		if r.Intn(3) == 0 && !slices.Contains(s.Seen, 2) {
			s.Seen = append(s.Seen, 2)
		}
		l = append(l, s)
	}
	p, e := pick.New(w, l...)
	if e != api.OK {
		t.Fatal(e)
	}
	p.Rounds(r.Intn(6))
	var cues []api.Cue
	for range r.Intn(6) {
		switch r.Intn(3) {
		case 0:
			cues = append(cues, ask("holds", num(int64(r.Intn(3))), ref(5), list(num(1))))
		case 1:
			cues = append(cues, edge(1+r.Intn(2)))
		default:
			if len(l) > 0 {
				cues = append(cues, turn(r.Intn(len(l))))
			}
		}
	}
	s, e := Of(p, cues...)
	if e != api.OK {
		t.Fatal(e)
	}
	return s
}

func TestP30_4ThereAndBack(t *testing.T) {
	r := rand.New(rand.NewSource(1))
	for range 150 {
		s := random(t, r)
		text, e := Text(s)
		back, line, at, f := Read(text)
		if e != api.OK || f != api.OK || line != 0 || at != 0 || !Same(s, back) {
			t.Fatal(text, e, line, at, f)
		}
		if again, _ := Text(back); again != text {
			t.Error(text, again)
		}
		// Blanks, lines that are passed over, blocks in lines, and things ahead of sides and behind cues.
		var first, others []string
		for _, l := range strings.Split(strings.TrimSuffix(text, "\n"), "\n") {
			l = strings.ReplaceAll(l, " = ", "  =  ")
			if !strings.Contains(l, `"`) {
				l = strings.ReplaceAll(l, "{", "{\n--\n")
				l = strings.ReplaceAll(l, ";", "\n\n;")
			}
			if strings.HasPrefix(l, "#") || strings.HasPrefix(l, "cut") {
				others = append([]string{l, "-- so", "  "}, others...)
			} else {
				first = append(first, l)
			}
		}
		turned := strings.Join(append(first, others...), "\n")
		if r.Intn(2) == 0 {
			turned = strings.Join(append(others, first...), "\n")
		}
		if again, line, at, e := Read(turned); e != api.OK || !Same(s, again) {
			t.Error(turned, line, at, e)
		}
	}
}

func TestP30_5PlayOf(t *testing.T) {
	r := rand.New(rand.NewSource(2))
	for range 60 {
		s := random(t, r)
		p, e := Play(s)
		if e != api.OK {
			t.Fatal(e)
		}
		o, e := Of(p, s.Cues...)
		if e != api.OK || !Same(o, s) {
			t.Error(e)
		}
		p.Rounds(3)
		o, _ = Of(p)
		q, e := Play(o)
		begin, _ := pick.New(p.World(), p.Subjects()...)
		if e != api.OK || !pick.Same(q, begin) {
			t.Error(e)
		}
	}
}

func TestP30_6AsItGoes(t *testing.T) {
	r := rand.New(rand.NewSource(3))
	for range 40 {
		s := random(t, r)
		text, _ := Text(s)
		back := read(t, text)
		p, _ := Play(s)
		q, _ := Play(back)
		for _, c := range s.Cues {
			if c.Ask.Word == "" {
				p.Turn(c.Turn)
				q.Turn(c.Turn)
			}
		}
		if !pick.Same(p, q) {
			t.Error("they play otherwise")
		}
	}
}
