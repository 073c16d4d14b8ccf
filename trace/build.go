package trace

import (
	"slices"

	"postern/api"
	"postern/pick"
	"postern/value"
	"postern/world"
)

// builder goes over the deeds of a history, and keeps what lies where by then.
type builder struct {
	trace  *Trace
	begin  *world.World
	world  *world.World           // as it is at the end: things never go
	laid   map[api.Ref]api.Moment // when something was put to a cell last
	queues map[api.Ref][]queued   // what a queue has
	rules  map[row]func(deed api.Deed)

	at  api.Moment
	who api.Node
}

// queued is a value in a queue, and when it came there.
type queued struct {
	refs []api.Ref
	at   api.Moment
}

// row is what a deed is, by its kind, by what it was done on or what was made, and by its ability.
type row struct {
	deed api.DeedKind
	kind api.Kind
	able api.Able
}

func subject(who int) api.Node { return api.Node{Who: who} }

func thing(r api.Ref) api.Node { return api.Node{Is: true, Ref: r} }

func newBuilder(begin *pick.Play, end *world.World) *builder {
	b := &builder{
		trace: &Trace{
			things: make(map[api.Ref]struct{}),
			known:  make(map[api.Coming]int),
			first:  make(map[arrival]int),
			makers: make(map[api.Ref]making),
		},
		begin:  begin.World(),
		world:  end,
		laid:   make(map[api.Ref]api.Moment),
		queues: make(map[api.Ref][]queued),
	}
	b.rules = b.rows()
	for r := range end.Things() {
		b.trace.things[r] = struct{}{}
	}
	for who, s := range begin.Subjects() {
		b.trace.subjects++
		b.names(subject(who), s.Names)
	}
	for r := range b.begin.Things() {
		b.has(r)
	}
	return b
}

// names lays what names stand for at the beginning.
func (b *builder) names(to api.Node, names []api.Name) {
	for _, n := range names {
		b.come(to, source{}, value.Refs(n.Value)...)
	}
}

// has lays what a thing has at the beginning.
func (b *builder) has(r api.Ref) {
	x, _ := b.begin.What(r)
	b.names(thing(r), x.Names)
	b.come(thing(r), source{}, value.Refs(x.Value)...)
	for _, v := range x.Values {
		b.come(thing(r), source{}, value.Refs(v)...)
		if x.Kind == api.Queue {
			b.queues[r] = append(b.queues[r], queued{refs: value.Refs(v)})
		}
	}
}

// come lays that references came to a place now; those that the place has of this moment already count once.
func (b *builder) come(to api.Node, from source, refs ...api.Ref) {
	for _, r := range refs {
		c := api.Coming{To: to, Ref: r, At: b.at}
		if _, twice := b.trace.known[c]; twice {
			continue
		}
		i := len(b.trace.comings)
		b.trace.known[c] = i
		b.trace.comings = append(b.trace.comings, b.sourced(c, from))
		if _, met := b.trace.first[arrival{to, r}]; !met {
			b.trace.first[arrival{to, r}] = i
		}
	}
}

// sourced tells how c came, and finds the coming that its chain has ahead.
func (b *builder) sourced(c api.Coming, from source) came {
	x := came{Coming: c, source: from, behind: none}
	if !from.is {
		return x
	}
	if x.ref == 0 {
		x.ref = c.Ref
	}
	found, ok := b.trace.first[arrival{from.from, x.ref}]
	if from.bound {
		// Of several times when it may have come there the deed found the first one.
		found, ok = b.trace.known[api.Coming{To: from.from, Ref: x.ref, At: from.whens[0]}]
	}
	if ok {
		x.behind = found
	}
	return x
}

// turn lays what a turn's deeds bring.
func (b *builder) turn(n int, d api.Done) {
	for i, deed := range d.Deeds {
		b.at, b.who = api.Moment{Done: n, Deed: i}, subject(d.Turn.Who)
		if deed.By != 0 {
			b.who = thing(deed.By)
		}
		b.trace.deeds++
		if does := b.rules[b.row(deed)]; does != nil {
			does(deed)
		}
		b.make(deed)
	}
}

// row tells the row of the table in which a deed stands.
func (b *builder) row(deed api.Deed) row {
	switch deed.Kind {
	case api.Acted:
		return row{api.Acted, b.world.Kind(deed.Base), deed.Able}
	case api.Built:
		return row{api.Built, deed.What, api.None}
	}
	return row{deed: deed.Kind}
}

// make keeps who made something first.
func (b *builder) make(deed api.Deed) {
	if deed.Kind == api.Built && deed.What == api.Facet && deed.Made[0] == deed.With.R {
		return
	}
	for _, r := range deed.Made {
		if _, met := b.trace.makers[r]; !met && !b.begin.Is(r) {
			b.trace.makers[r] = making{b.who, b.at}
		}
	}
}

// rows tells what the deeds of each row bring.
func (b *builder) rows() map[row]func(deed api.Deed) {
	return map[row]func(deed api.Deed){
		{api.Acted, api.Cell, api.Put}:       b.put,
		{api.Acted, api.Log, api.Give}:       b.give,
		{api.Acted, api.Queue, api.Give}:     b.queue,
		{api.Acted, api.Keeper, api.Give}:    b.keep,
		{api.Acted, api.Cell, api.Get}:       b.getCell,
		{api.Acted, api.Log, api.Get}:        b.get,
		{api.Acted, api.Promise, api.Get}:    b.get,
		{api.Acted, api.Queue, api.Take}:     b.take,
		{api.Acted, api.Sealer, api.Ask}:     b.seal,
		{api.Acted, api.Opener, api.Ask}:     b.open,
		{api.Acted, api.Mint, api.Ask}:       b.made,
		{api.Acted, api.Purse, api.Take}:     b.made,
		{deed: api.Asked}:                    b.asked,
		{deed: api.Answered}:                 b.answered,
		{deed: api.Built, kind: api.Cell}:    b.builtCell,
		{deed: api.Built, kind: api.Clerk}:   b.builtClerk,
		{deed: api.Built, kind: api.Facet}:   b.narrowed,
		{deed: api.Built, kind: api.Gate}:    b.narrowed,
		{deed: api.Built, kind: api.Tap}:     b.narrowed,
		{deed: api.Built, kind: api.Log}:     b.made,
		{deed: api.Built, kind: api.Tally}:   b.made,
		{deed: api.Built, kind: api.Queue}:   b.made,
		{deed: api.Built, kind: api.Mint}:    b.made,
		{deed: api.Built, kind: api.Sealer}:  b.made,
		{deed: api.Built, kind: api.Promise}: b.made,
	}
}

// from tells who does the deed as a source.
func (b *builder) from() source { return source{from: b.who, is: true} }

func (b *builder) put(deed api.Deed) {
	b.laid[deed.Base] = b.at
	b.give(deed)
}

func (b *builder) give(deed api.Deed) {
	b.come(thing(deed.Base), b.from(), value.Refs(deed.With)...)
}

func (b *builder) queue(deed api.Deed) {
	b.queues[deed.Base] = append(b.queues[deed.Base], queued{value.Refs(deed.With), b.at})
	b.give(deed)
}

func (b *builder) keep(deed api.Deed) {
	x, _ := b.world.What(deed.Base)
	b.come(thing(x.Of), b.from(), value.Refs(deed.With)...)
}

func (b *builder) get(deed api.Deed) {
	b.come(b.who, source{from: thing(deed.Base), is: true}, value.Refs(deed.Answer)...)
}

func (b *builder) getCell(deed api.Deed) {
	lay := source{from: thing(deed.Base), is: true, bound: true, whens: []api.Moment{b.laid[deed.Base]}}
	b.come(b.who, lay, value.Refs(deed.Answer)...)
}

// take lays what came out of a queue: each reference as it came there with a value that was taken.
func (b *builder) take(deed api.Deed) {
	n := len(deed.Answer.L)
	taken := b.queues[deed.Base][:n]
	b.queues[deed.Base] = b.queues[deed.Base][n:]
	for _, r := range value.Refs(deed.Answer) {
		lay := source{from: thing(deed.Base), is: true, bound: true}
		for _, q := range taken {
			if slices.Contains(q.refs, r) {
				lay.whens = append(lay.whens, q.at)
			}
		}
		b.come(b.who, lay, r)
	}
}

func (b *builder) seal(deed api.Deed) {
	b.come(thing(deed.Made[0]), b.from(), value.Refs(deed.With)...)
	b.made(deed)
}

func (b *builder) open(deed api.Deed) {
	b.come(b.who, source{from: thing(deed.With.R), is: true}, value.Refs(deed.Answer)...)
}

func (b *builder) made(deed api.Deed) { b.come(b.who, source{}, deed.Made...) }

func (b *builder) asked(deed api.Deed) {
	b.come(thing(deed.Base), b.from(), value.Refs(deed.With)...)
}

func (b *builder) answered(deed api.Deed) {
	b.come(b.who, source{from: thing(deed.Base), is: true}, value.Refs(deed.Answer)...)
}

func (b *builder) builtCell(deed api.Deed) {
	b.laid[deed.Made[0]] = b.at
	b.come(thing(deed.Made[0]), b.from(), value.Refs(deed.With)...)
	b.made(deed)
}

func (b *builder) builtClerk(deed api.Deed) {
	for _, n := range deed.Names {
		b.come(thing(deed.Made[0]), b.from(), value.Refs(n.Value)...)
	}
	b.made(deed)
}

// narrowed lays what stands before the reference that With is, and what was made besides.
func (b *builder) narrowed(deed api.Deed) {
	from := b.from()
	from.ref = deed.With.R
	if deed.Made[0] != deed.With.R {
		b.come(b.who, from, deed.Made[0])
	}
	b.come(b.who, source{}, deed.Made[1:]...)
}
