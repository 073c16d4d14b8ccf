package bound

import (
	"cmp"
	"slices"

	"postern/able"
	"postern/api"
	"postern/code"
	"postern/run"
	"postern/value"
	"postern/world"
)

// ground is what facts are said of. It is never changed, so sets of facts share it.
type ground struct {
	w        *world.World
	subjects []api.Subject
	holders  []api.Holder
	sides    []api.Side // of the holders
	uses     []api.Uses // likewise: what each can do at all
	spots    []api.Spot
	bases    []int // of each mark: its base's; of what is made later itself
	things   []api.What
	rowOf    []int // of each mark: the row of what lies in it, or of the clerk that it is; none
	places   []int // the marks in which something lies, in order: these rows come behind the holders'
	open     map[api.Side][]bool

	holderAt map[api.Holder]int
	spotAt   map[api.Spot]int
	boxes    map[api.Ref][]int // by sealers: the marks of boxes
	openers  map[api.Ref][]int // by sealers: the marks whose base opens them
}

const none = -1

func newGround(w *world.World, l []api.Subject) (*ground, api.Errno) {
	if w.Sides() == 0 {
		return nil, api.ErrNil
	}
	if len(l) > api.MaxWho {
		return nil, api.ErrArg
	}
	for _, s := range l {
		if run.Check(w, s) != api.OK {
			return nil, api.ErrArg
		}
	}
	if many(w, len(l)) {
		return nil, api.ErrMany
	}
	g := &ground{
		w:        w.Copy(),
		holderAt: make(map[api.Holder]int),
		spotAt:   make(map[api.Spot]int),
		boxes:    make(map[api.Ref][]int),
		openers:  make(map[api.Ref][]int),
		open:     make(map[api.Side][]bool),
	}
	g.layHolders(l)
	g.laySpots()
	g.layRows()
	g.layPairs()
	return g, api.OK
}

// many says whether more pairs are possible than there may be.
func many(w *world.World, subjects int) bool {
	count := make(map[api.Kind]int)
	for _, kind := range w.Things() {
		count[kind]++
	}
	holders := subjects + count[api.Clerk]
	places := holders + count[api.Sealer]*holders
	for _, kind := range [...]api.Kind{api.Cell, api.Log, api.Queue, api.Box, api.Promise} {
		places += count[kind]
	}
	marks := w.Len() - count[api.Facet] + holders + count[api.Sealer]*holders + count[api.Mint]
	return marks > 0 && holders+places > api.MaxFacts/marks
}

// layHolders lays who may hold something: subjects, then clerks.
func (g *ground) layHolders(l []api.Subject) {
	add := func(h api.Holder, side api.Side, uses api.Uses) {
		g.holderAt[h] = len(g.holders)
		g.holders, g.sides, g.uses = append(g.holders, h), append(g.sides, side), append(g.uses, uses)
	}
	for who, s := range l {
		g.subjects = append(g.subjects, ownSubject(s))
		add(api.Holder{Subject: who}, s.Side, api.Uses{Able: api.All, Makes: true})
	}
	for r, kind := range g.w.Things() {
		if kind == api.Clerk {
			x, _ := g.w.What(r)
			add(api.Holder{Clerk: r}, x.Home, usesOf(x))
		}
	}
}

// usesOf tells what a clerk can do at all.
func usesOf(x api.What) api.Uses {
	if !code.MayNames(x.Names) {
		return api.Uses{}
	}
	uses, _ := code.Uses(x.Code)
	return uses
}

func ownSubject(s api.Subject) api.Subject {
	s.Code, _ = code.Own(s.Code)
	names := s.Names
	s.Names, s.Seen = nil, slices.Clone(s.Seen)
	for _, n := range names {
		v, _ := value.Own(n.Value)
		s.Names = append(s.Names, api.Name{Name: n.Name, Value: v})
	}
	return s
}

// laySpots lays the marks, in order.
func (g *ground) laySpots() {
	var mints, sealers []api.Ref
	for r, kind := range g.w.Things() {
		switch kind {
		case api.Facet:
			continue
		case api.Mint:
			mints = append(mints, r)
		case api.Sealer:
			sealers = append(sealers, r)
		}
		x, _ := g.w.What(r)
		g.layMark(api.Spot{Kind: api.SpotThing, Ref: r}, x)
	}
	for _, u := range g.holders {
		g.layMark(api.Spot{Kind: api.SpotMade, Of: u}, api.What{})
	}
	for _, r := range sealers {
		for _, u := range g.holders {
			g.layMark(api.Spot{Kind: api.SpotBox, Ref: r, Of: u}, api.What{})
		}
	}
	for _, r := range mints {
		g.layMark(api.Spot{Kind: api.SpotPurse, Ref: r}, api.What{})
	}
	for i, spot := range g.spots {
		g.bases = append(g.bases, i)
		if spot.Kind == api.SpotThing {
			g.bases[i] = g.markOf(g.w.Base(spot.Ref))
		}
	}
}

func (g *ground) layMark(spot api.Spot, x api.What) {
	g.spotAt[spot] = len(g.spots)
	g.spots, g.things = append(g.spots, spot), append(g.things, x)
}

// markOf tells the mark of a reference.
func (g *ground) markOf(r api.Ref) int {
	if g.w.Kind(r) == api.Facet {
		x, _ := g.w.What(r)
		r = x.Of
	}
	return g.spotAt[api.Spot{Kind: api.SpotThing, Ref: r}]
}

// hasSomething says whether something may lie in a mark.
func (g *ground) hasSomething(mark int) bool {
	switch g.spots[mark].Kind {
	case api.SpotMade, api.SpotBox:
		return true
	}
	switch g.things[mark].Kind {
	case api.Cell, api.Log, api.Queue, api.Box, api.Promise:
		return true
	}
	return false
}

// layRows lays the rows: of the holders, and behind them of the places.
func (g *ground) layRows() {
	for i, spot := range g.spots {
		row := none
		if g.hasSomething(i) {
			row = g.rows()
			g.places = append(g.places, i)
		} else if who, ok := g.holderAt[api.Holder{Clerk: spot.Ref}]; ok && g.things[i].Kind == api.Clerk {
			row = who
		}
		g.rowOf = append(g.rowOf, row)
	}
	for _, side := range g.sides {
		if g.open[side] != nil {
			continue
		}
		g.open[side] = make([]bool, len(g.spots))
		for i := range g.spots {
			g.open[side][i] = g.free(side, i)
		}
	}
}

func (g *ground) rows() int { return len(g.holders) + len(g.places) }

// free says whether the way from a side by a mark is open.
func (g *ground) free(side api.Side, mark int) bool {
	spot := g.spots[mark]
	if spot.Kind == api.SpotThing {
		return g.w.Free(side, spot.Ref) == api.OK
	}
	if spot.Kind == api.SpotMade {
		return g.w.Open(side, g.sides[g.holderAt[spot.Of]])
	}
	home, _ := g.w.Home(spot.Ref)
	return g.w.Open(side, home)
}

// isOpen says whether the way from a holder's side by a mark is open.
func (g *ground) isOpen(who, mark int) bool { return g.open[g.sides[who]][mark] }

// layPairs lays by sealers what is sealed, and what opens it.
func (g *ground) layPairs() {
	for i, spot := range g.spots {
		switch x := g.things[i]; {
		case x.Kind == api.Box:
			g.boxes[x.Of] = append(g.boxes[x.Of], i)
		case spot.Kind == api.SpotBox:
			g.boxes[spot.Ref] = append(g.boxes[spot.Ref], i)
		}
		if base := g.things[g.bases[i]]; base.Kind == api.Opener {
			g.openers[base.Of] = append(g.openers[base.Of], i)
		}
	}
}

// opens says whether r is a promise that has nothing yet.
func (g *ground) opens(r api.Ref) bool {
	x, _ := g.w.What(r)
	return x.Kind == api.Promise && !x.Full
}

// now tells the facts of the world.
func (g *ground) now(tell func(p pair, set api.Able)) {
	holds := func(row int, l []api.Ref) {
		for _, r := range l {
			tell(pair{row, g.markOf(r)}, g.w.Able(r))
		}
	}
	for who, h := range g.holders {
		if h.Clerk != 0 {
			holds(who, refsIn(g.things[g.markOf(h.Clerk)]))
		} else {
			holds(who, refsIn(api.What{Names: g.subjects[who].Names}))
		}
	}
	for i, mark := range g.places {
		holds(len(g.holders)+i, refsIn(g.things[mark]))
	}
}

// refsIn tells the references in what a thing has.
func refsIn(x api.What) []api.Ref {
	l := value.Refs(x.Value)
	for _, v := range x.Values {
		l = append(l, value.Refs(v)...)
	}
	for _, n := range x.Names {
		l = append(l, value.Refs(n.Value)...)
	}
	return l
}

// told tells a fact.
func (g *ground) told(x fact) api.Fact {
	t := api.Fact{What: g.spots[x.mark], Can: x.can & api.All}
	if x.row < len(g.holders) {
		t.By = g.holders[x.row]
	} else {
		t.In = g.spots[g.places[x.row-len(g.holders)]]
	}
	return t
}

// placed tells the places of a fact that may be here.
func (g *ground) placed(x api.Fact) (fact, bool) {
	mark, ok := g.spotAt[x.What]
	if !ok || x.Can != api.None && !able.One(x.Can) {
		return fact{}, false
	}
	at := fact{pair{none, mark}, x.Can}
	if x.Can == api.None {
		at.can = atAll
	}
	if x.In == (api.Spot{}) {
		at.row, ok = g.holderAt[x.By]
		return at, ok
	}
	in, ok := g.spotAt[x.In]
	if !ok || x.By != (api.Holder{}) || !g.hasSomething(in) {
		return fact{}, false
	}
	at.row = g.rowOf[in]
	return at, true
}

// same says whether both are of one world and its subjects.
func (g *ground) same(o *ground) bool {
	return g == o || world.Same(g.w, o.w) && slices.EqualFunc(g.subjects, o.subjects, sameSubject)
}

func sameSubject(s, t api.Subject) bool {
	sameName := func(m, n api.Name) bool { return m.Name == n.Name && value.Same(m.Value, n.Value) }
	return s.Side == t.Side && code.Same(s.Code, t.Code) && slices.EqualFunc(s.Names, t.Names, sameName) && slices.Equal(s.Seen, t.Seen)
}

// order holds facts against each other in their order.
func order(x, y fact) int {
	// Without an ability comes ahead of those with one.
	return cmp.Or(cmp.Compare(x.row, y.row), cmp.Compare(x.mark, y.mark), cmp.Compare(x.can&api.All, y.can&api.All))
}
