package plan

import (
	"strconv"

	"postern/api"
	"postern/pick"
	"postern/value"
	"postern/world"
)

// builder makes moves out of links, each of which is tried as it is made.
type builder struct {
	links []api.Link
	begin []api.Subject
	now   *pick.Play
	moves []api.Move
	names map[api.Fact]slot // what was handed on already, and under which name it stands
	used  map[slot]int      // names that are taken
	rules [6]func(l api.Link, in *cargo) string
}

// slot is a name of a subject.
type slot struct {
	who  int
	name string
}

// cargo is what a box that is made later has to bring: what the link says that its maker holds; and what is in that, if that is such a box, too.
type cargo struct {
	link int
	in   *cargo
}

// stuck is what a builder gives up with: a move that meets a limit.
type stuck struct{}

// build makes the moves that bring about the last one's fact.
func build(w *world.World, links []api.Link, l []api.Subject) (moves []api.Move, ok bool) {
	p, e := pick.New(w, l...)
	if e != api.OK {
		return nil, false
	}
	b := &builder{links: links, begin: l, now: p, names: make(map[api.Fact]slot), used: make(map[slot]int)}
	b.rules = [...]func(l api.Link, in *cargo) string{b.world, b.lie, b.box, b.none, b.made, b.none}
	for who, s := range l {
		for _, n := range s.Names {
			b.used[slot{who, n.Name}]++
		}
	}
	defer func() {
		met := recover()
		if met == nil {
			return
		}
		if _, is := met.(stuck); is {
			moves, ok = nil, false
			return
		}
		panic(met)
	}()
	b.hold(len(links)-1, nil)
	return b.moves, true
}

// hold lets somebody hold what a link says, and tells the name under which that stands.
// What goes into boxes that are made later is brought anew each time: a box has just what was sealed in it.
func (b *builder) hold(link int, in *cargo) string {
	l := b.links[link]
	if known, ok := b.names[l.Fact]; ok && in == nil {
		return known.name
	}
	name := b.rules[l.Rule](l, in)
	if in == nil {
		b.names[l.Fact] = slot{l.Fact.By.Subject, name}
	}
	return name
}

// free lets a name be taken again.
func (b *builder) free(who int, name string) { delete(b.used, slot{who, name}) }

// arrived frees the name of what brought something: it was but for one journey.
func (b *builder) arrived(who int, name string, in *cargo) {
	if in != nil {
		b.free(who, name)
	}
}

// fresh tells a name of a subject that nothing stands under.
func (b *builder) fresh(who int) string {
	for n := 0; ; n++ {
		name := string(rune('a' + n%26))
		if n >= 26 {
			name += strconv.Itoa(n / 26)
		}
		if _, ok := b.used[slot{who, name}]; !ok {
			b.used[slot{who, name}]++
			return name
		}
	}
}

// do does a statement of a subject, and tells what its name stands for then.
func (b *builder) do(who int, s api.Stmt) api.Value {
	l := b.now.Subjects()
	l[who].Code = []api.Stmt{s}
	next, e := pick.New(b.now.World(), l...)
	if e != api.OK {
		panic(stuck{})
	}
	d, told, _ := next.Turn(api.Turn{Who: who})
	if !told || d.Line.Code != api.OK {
		panic(stuck{})
	}
	b.now = next
	b.moves = append(b.moves, api.Move{Who: who, Stmt: s})
	return d.Line.Value
}

// act does an act on what a name stands for, with an argument or none.
func (b *builder) act(who int, by api.Able, on string, with ...api.Expr) (string, api.Value) {
	s := api.Stmt{Op: api.Act, Name: b.fresh(who), Able: by, A: named(on)}
	for _, e := range with {
		s.B = e
	}
	return s.Name, b.do(who, s)
}

// lay does an act whose answer is nothing.
func (b *builder) lay(who int, by api.Able, on string, with ...api.Expr) {
	name, _ := b.act(who, by, on, with...)
	b.free(who, name)
}

func named(name string) api.Expr { return api.Expr{Kind: api.EName, S: name} }

func number(n int) api.Expr { return api.Expr{Kind: api.ENumber, N: int64(n)} }

// part goes down within what a name stands for, and tells the name of what stands there.
func (b *builder) part(who int, name string, place ...int) string {
	for _, i := range place {
		b.do(who, api.Stmt{Op: api.Part, Name: name, A: named(name), B: number(i)})
	}
	return name
}

// find tells the place in v of a reference that is as a fact says.
func (b *builder) find(v api.Value, x api.Fact) ([]int, bool) {
	w := b.now.World()
	for p := range value.Each(v) {
		if p.Value.Kind == api.Reference && is(w, p.Value.R, x.What.Ref, x.Can) {
			return p.Place, true
		}
	}
	return nil, false
}

// pick goes down to the reference in what a name stands for that is as a fact says.
func (b *builder) pick(name string, v api.Value, x api.Fact) string {
	place, ok := b.find(v, x)
	if !ok {
		panic(stuck{})
	}
	return b.part(x.By.Subject, name, place...)
}

// none is a rule that brings nothing that could be wanted.
func (b *builder) none(api.Link, *cargo) string { panic(stuck{}) }

// world holds what was held at the beginning: in a name of its own, where it stands within a list.
func (b *builder) world(l api.Link, in *cargo) string {
	if len(l.From) > 0 {
		return b.hold(l.From[0], in)
	}
	who := l.Fact.By.Subject
	for _, n := range b.begin[who].Names {
		place, ok := b.find(n.Value, l.Fact)
		if !ok {
			continue
		}
		if len(place) == 0 {
			return n.Name
		}
		name := b.fresh(who)
		b.do(who, api.Stmt{Op: api.Part, Name: name, A: named(n.Name), B: number(place[0])})
		return b.part(who, name, place[1:]...)
	}
	panic(stuck{})
}

// lain tells the link of what lies somewhere, and whether it lay there at the beginning.
func (b *builder) lain(link int) (api.Link, bool) {
	l := b.links[link]
	for l.Rule == 0 && len(l.From) > 0 {
		l = b.links[l.From[0]]
	}
	return l, l.Rule == 0
}

// lie is rule 1: what lies in something is told.
func (b *builder) lie(l api.Link, in *cargo) string {
	who, lies := l.Fact.By.Subject, l.From[1]
	laid, begin := b.lain(lies)
	if begin {
		on := b.hold(l.From[0], nil)
		name, v := b.act(who, b.links[l.From[0]].Fact.Can, on)
		return b.pick(name, v, l.Fact)
	}
	return b.hand(l.From[0], laid.From[0], laid.From[1], in)
}

// hand lets somebody lay something somewhere, and somebody else get it at once: where both can is told by links.
func (b *builder) hand(getter, giver, what int, in *cargo) string {
	from, to := b.links[giver].Fact, b.links[getter].Fact
	brings, into, out := b.hold(what, in), b.hold(giver, nil), b.hold(getter, nil)
	b.lay(from.By.Subject, ability(from, api.Give), into, named(brings))
	b.arrived(from.By.Subject, brings, in)
	if ability(to, api.Get) == api.Get {
		name, v := b.act(to.By.Subject, api.Get, out)
		return b.last(to.By.Subject, name, v)
	}
	name, v := b.act(to.By.Subject, api.Take, out, number(b.length(to.What.Ref)))
	return b.last(to.By.Subject, name, v)
}

// ability tells the one that a fact says; of what was made later another one: that is a log.
func ability(x api.Fact, of api.Able) api.Able {
	if x.What.Kind == api.SpotMade {
		return of
	}
	return x.Can
}

// length tells how many values the queue has before which r stands.
func (b *builder) length(r api.Ref) int {
	w := b.now.World()
	x, _ := w.What(w.Base(r))
	return len(x.Values)
}

// last tells the name of the last one of a list; of a cell's value that is it itself.
func (b *builder) last(who int, name string, v api.Value) string {
	if v.Kind != api.List {
		return name
	}
	return b.part(who, name, len(v.L)-1)
}

// box is rule 2: a box is sealed, with what it has to bring; or something comes out of one.
func (b *builder) box(l api.Link, in *cargo) string {
	who := l.Fact.By.Subject
	if len(l.From) == 1 {
		brings := b.hold(in.link, in.in)
		name, _ := b.act(who, api.Ask, b.hold(l.From[0], nil), named(brings))
		b.arrived(who, brings, in.in)
		return name
	}
	laid, begin := b.lain(l.From[2])
	if begin {
		box, opener := b.hold(l.From[1], nil), b.hold(l.From[0], nil)
		name, v := b.act(who, api.Ask, opener, named(box))
		return b.pick(name, v, l.Fact)
	}
	brings := &cargo{link: laid.From[1], in: in}
	box, opener := b.hold(l.From[1], brings), b.hold(l.From[0], nil)
	name, _ := b.act(who, api.Ask, opener, named(box))
	b.free(who, box)
	return name
}

// made is rule 4: somebody makes a log; or gets what was laid in one.
func (b *builder) made(l api.Link, in *cargo) string {
	if len(l.From) == 0 {
		s := api.Stmt{Op: api.Make, Name: b.fresh(l.Fact.By.Subject), What: api.Log}
		b.do(l.Fact.By.Subject, s)
		return s.Name
	}
	laid, _ := b.lain(l.From[1])
	return b.hand(l.From[0], laid.From[0], laid.From[1], in)
}
