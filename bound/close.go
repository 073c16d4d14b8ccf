package bound

import (
	"slices"

	"postern/api"
)

// closer brings about what rules bring about, until nothing comes any more.
type closer struct {
	f     *Facts
	work  []held            // what came, and was not looked at yet
	flows map[int][]bring   // by the rows from which they go
	known map[pair]struct{} // the rows between which one goes
	note  func(p pair, came api.Able, b bring)
}

// Close adds all that the rules bring about, and tells how many facts came.
func (f *Facts) Close() int {
	if !f.there() {
		return 0
	}
	before := f.count
	f.close(func(pair, api.Able, bring) {})
	return f.count - before
}

// close adds all that the rules bring about, and notes of each set that comes what brought it about.
func (f *Facts) close(note func(p pair, came api.Able, b bring)) {
	c := &closer{f: f, flows: make(map[int][]bring), known: make(map[pair]struct{}), note: note}
	for row, marks := range f.marks {
		for _, mark := range marks {
			c.work = append(c.work, held{pair{row, mark}, f.sets[pair{row, mark}]})
		}
	}
	f.all(c.tell)
	rules := f.rules()
	// The first ones first: so what is brought about is so by few steps.
work:
	for i := 0; i < len(c.work); i++ {
		h := c.work[i]
		for _, b := range c.flows[h.row] {
			c.bring(pair{b.row, h.mark}, h.set, b)
		}
		if h.row >= len(f.g.holders) {
			continue work
		}
		for _, r := range rules {
			r(h, c.tell)
		}
	}
}

// tell takes what a rule brings about.
func (c *closer) tell(b bring) {
	if b.from == none {
		c.bring(b.pair, b.set, b)
		return
	}
	between := pair{b.from, b.row}
	if _, ok := c.known[between]; ok || b.from == b.row {
		return
	}
	c.known[between] = struct{}{}
	c.flows[b.from] = append(c.flows[b.from], b)
	for _, mark := range c.f.marks[b.from] {
		c.bring(pair{b.row, mark}, c.f.sets[pair{b.from, mark}], b)
	}
}

func (c *closer) bring(p pair, set api.Able, b bring) {
	if came := c.f.add(p, set); came != 0 {
		c.note(p, came, b)
		c.work = append(c.work, held{p, came})
	}
}

// Kept says whether the rules keep the set, or tells the first fact that is wanting, and the least rule that brings it about.
func (f *Facts) Kept() (miss api.Fact, rule int, kept bool) {
	if !f.there() {
		return api.Fact{}, 0, false
	}
	first, rule := fact{pair: pair{row: f.g.rows()}}, 0
	wants := func(p pair, set api.Able, by int) {
		for can := range cans(set &^ f.sets[p]) {
			x := fact{p, can}
			if o := order(x, first); o < 0 || o == 0 && by < rule {
				first, rule = x, by
			}
		}
	}
	known := make(map[bringing]struct{})
	tell := func(b bring) {
		if b.from == none {
			wants(b.pair, b.set, b.rule)
			return
		}
		between := bringing{b.rule, b.from, b.row}
		if _, ok := known[between]; ok {
			return
		}
		known[between] = struct{}{}
		for _, mark := range f.marks[b.from] {
			wants(pair{b.row, mark}, f.sets[pair{b.from, mark}], b.rule)
		}
	}
	f.all(tell)
	for who := range f.g.holders {
		for _, mark := range f.marks[who] {
			for _, r := range f.rules() {
				r(held{pair{who, mark}, f.sets[pair{who, mark}]}, tell)
			}
		}
	}
	if rule == 0 {
		return api.Fact{}, 0, true
	}
	return f.g.told(first), rule, false
}

// bringing is that a rule brings all of a row into another one.
type bringing struct{ rule, from, to int }

// Why tells links to x, each of which follows from earlier ones.
func (f *Facts) Why(x api.Fact) ([]api.Link, api.Errno) {
	if !f.there() {
		return nil, api.ErrNil
	}
	at, ok := f.g.placed(x)
	if !ok {
		return nil, api.ErrArg
	}
	d := &derivation{f: f.of(), came: make(map[pair][]coming), places: make(map[fact]int)}
	d.f.close(func(p pair, came api.Able, b bring) { d.came[p] = append(d.came[p], coming{came, b}) })
	if !d.f.has(at) {
		return nil, api.ErrFact
	}
	d.link(at)
	return d.worldFirst(), api.OK
}

// worldFirst tells the same links, those of the world ahead of the others, in the order of facts.
func (d *derivation) worldFirst() []api.Link {
	var world, others []int
	for i, l := range d.links {
		if l.Rule == 0 && len(l.From) == 0 {
			world = append(world, i)
		} else {
			others = append(others, i)
		}
	}
	slices.SortFunc(world, func(i, j int) int { return order(d.facts[i], d.facts[j]) })
	place := make([]int, len(d.links))
	var links []api.Link
	for n, i := range append(world, others...) {
		place[i] = n
		l := d.links[i]
		for k, from := range l.From {
			l.From[k] = place[from]
		}
		links = append(links, l)
	}
	return links
}

// derivation is links, and the places of those that stand there already.
type derivation struct {
	f      *Facts
	came   map[pair][]coming
	places map[fact]int
	facts  []fact
	links  []api.Link
}

// coming is a set that came, and what brought it about.
type coming struct {
	set api.Able
	by  bring
}

// link lays the links to x, and tells the place of its own.
func (d *derivation) link(x fact) int {
	if place, ok := d.places[x]; ok {
		return place
	}
	l := api.Link{Fact: d.f.g.told(x)}
	// What nothing brought about is a fact of the world.
	i := slices.IndexFunc(d.came[x.pair], func(c coming) bool { return c.set&x.can != 0 })
	if i >= 0 {
		by := d.came[x.pair][i].by
		l.Rule = by.rule
		for _, need := range by.needs {
			l.From = append(l.From, d.link(need))
		}
		if by.from != none {
			l.From = append(l.From, d.link(fact{pair{by.from, x.mark}, x.can}))
		}
	}
	d.places[x] = len(d.links)
	d.facts, d.links = append(d.facts, x), append(d.links, l)
	return d.places[x]
}

// Follows says whether each link follows.
func (f *Facts) Follows(l ...api.Link) (at int, e api.Errno) {
	if !f.there() {
		return 0, api.ErrNil
	}
	now := f.of()
	for i, x := range l {
		if !now.follows(x, l[:i]) {
			return i, api.ErrLink
		}
	}
	return len(l), api.OK
}

// follows says whether a link follows from earlier ones; f is the facts of the world.
func (f *Facts) follows(l api.Link, earlier []api.Link) bool {
	x, ok := f.g.placed(l.Fact)
	if !ok {
		return false
	}
	few := &Facts{g: f.g, sets: make(map[pair]api.Able)}
	var from []fact
	for _, place := range l.From {
		if place < 0 || place >= len(earlier) || len(from) == 3 {
			return false
		}
		y, _ := f.g.placed(earlier[place].Fact)
		from = append(from, y)
		few.sets[y.pair] |= y.can | atAll
	}
	if l.Rule == 0 {
		return len(from) == 0 && f.has(x) || len(from) == 1 && from[0].pair == x.pair && from[0].can != atAll && x.can == atAll
	}
	if l.Rule < 1 || l.Rule > len(f.rules()) {
		return false
	}
	follows := false
	r := few.rules()[l.Rule-1]
	tell := func(b bring) { follows = follows || b.gives(x, from) }
	by := held{pair: pair{x.row, none}}
	if len(from) > 0 {
		by = held{from[0].pair, from[0].can}
	}
	if by.row < len(f.g.holders) {
		r(by, tell)
	}
	return follows
}

// gives says whether x is brought about from just these facts.
func (b bring) gives(x fact, from []fact) bool {
	if b.from == none {
		return x.pair == b.pair && x.can&b.set != 0 && slices.Equal(b.needs, from)
	}
	needs := append(slices.Clone(b.needs), fact{pair{b.from, x.mark}, x.can})
	return x.row == b.row && slices.Equal(needs, from)
}
