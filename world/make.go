package world

import (
	"postern/able"
	"postern/api"
)

// Make makes a thing.
func (w *World) Make(x api.What) (api.Ref, api.Errno) {
	if !w.there() {
		return 0, api.ErrNil
	}
	if !fits(&x, len(w.made)) || x.Kind == api.Facet || x.Kind == api.Switch && x.Of != 0 {
		return 0, api.ErrWhat
	}
	if !w.known(&x) {
		return 0, api.ErrRef
	}
	if !w.joins(&x, 0) {
		return 0, api.ErrWhat
	}
	if w.made[x.Home] >= api.MaxThings {
		return 0, api.ErrLimit
	}
	w.made[x.Home]++
	r := w.add(own(x))
	if x.Kind == api.Gate {
		sw := w.things[x.By].what
		sw.Of = r
		w.set(x.By, sw)
	}
	return r, api.OK
}

// known says whether all references of x, its Of and its By where they are asked for among them, are things.
func (w *World) known(x *api.What) bool {
	if f, _ := asked(x.Kind); f&hasOf != 0 && !w.Is(x.Of) && (x.Kind != api.Switch || x.Of != 0) || f&hasBy != 0 && !w.Is(x.By) {
		return false
	}
	for _, r := range refsOf(x) {
		if !w.Is(r) {
			return false
		}
	}
	return true
}

// joins says whether Of and By of x, which are things, are as the table asks for one that is, or is to be, the thing self (0: a new one).
func (w *World) joins(x *api.What, self api.Ref) bool {
	at := func(r api.Ref, k api.Kind) bool {
		t := &w.things[r].what
		return t.Kind == k && t.Home == x.Home
	}
	alone := func() bool {
		second, ok := w.seconds[x.Of]
		return !ok || second == self
	}
	switch x.Kind {
	case api.Opener:
		return at(x.Of, api.Sealer) && alone()
	case api.Box:
		return at(x.Of, api.Sealer)
	case api.Purse:
		return at(x.Of, api.Mint)
	case api.Keeper:
		return at(x.Of, api.Promise) && alone()
	case api.Gate:
		return at(x.By, api.Switch) && w.things[x.By].what.Of == self
	case api.Tap:
		return at(x.By, api.Tally)
	case api.Switch:
		return x.Of == 0 || w.Kind(x.Of) == api.Gate && w.things[x.Of].what.By == self
	case api.Facet:
		all := w.Able(x.Of)
		return w.Kind(x.Of) != api.Facet && able.Has(all, x.Set) && x.Set != all
	}
	return true
}

// add lays a new thing behind all that there ever were.
func (w *World) add(x api.What) api.Ref {
	w.last++
	w.set(w.last, x)
	w.index(w.last)
	return w.last
}

// set lays what a thing has.
func (w *World) set(r api.Ref, x api.What) {
	t := &thing{what: x, able: abilities(x.Kind), base: r}
	switch x.Kind {
	case api.Facet:
		t.able, t.base = x.Set, w.things[x.Of].base
	case api.Gate, api.Tap:
		t.able, t.base = w.things[x.Of].able, w.things[x.Of].base
	}
	w.things[r] = t
}

// index keeps by what else a thing is looked for.
func (w *World) index(r api.Ref) {
	x := &w.things[r].what
	switch x.Kind {
	case api.Facet:
		w.facets[narrowing{x.Of, x.Set}] = r
	case api.Opener, api.Keeper:
		w.seconds[x.Of] = r
	}
}

// Facet tells the facet of a target and a set, which is made, if there is none.
func (w *World) Facet(target api.Ref, set api.Able) (api.Ref, api.Errno) {
	if !w.there() {
		return 0, api.ErrNil
	}
	if !w.Is(target) {
		return 0, api.ErrRef
	}
	x := api.What{Kind: api.Facet, Of: target, Set: set}
	if !able.May(set) || !w.joins(&x, 0) {
		return 0, api.ErrWhat
	}
	if r, ok := w.Find(target, set); ok {
		return r, api.OK
	}
	return w.add(x), api.OK
}

// Find tells the facet of a target and a set, if there is one.
func (w *World) Find(target api.Ref, set api.Able) (api.Ref, bool) {
	if !w.there() {
		return 0, false
	}
	r, ok := w.facets[narrowing{target, set}]
	return r, ok
}

// Lay lays what a thing has from now on.
func (w *World) Lay(r api.Ref, x api.What) api.Errno {
	if !w.there() {
		return api.ErrNil
	}
	if !w.Is(r) {
		return api.ErrRef
	}
	now := &w.things[r].what
	stays := x.Kind == now.Kind && x.Home == now.Home && x.Of == now.Of && x.By == now.By && x.Set == now.Set
	if !stays || !fits(&x, len(w.made)) || now.Full && !x.Full {
		return api.ErrWhat
	}
	if !w.known(&x) {
		return api.ErrRef
	}
	w.set(r, own(x))
	return api.OK
}

// Drop takes things away, all at one time, with their facets.
func (w *World) Drop(l ...api.Ref) api.Errno {
	if !w.there() {
		return api.ErrNil
	}
	goes := make(map[api.Ref]struct{})
	for _, r := range l {
		if !w.Is(r) {
			return api.ErrRef
		}
		goes[r] = struct{}{}
	}
	if !w.takeFacets(l, goes) || w.held(goes) {
		return api.ErrHeld
	}
	for r := range goes {
		w.forget(r, goes)
	}
	for r := range goes {
		delete(w.things, r)
	}
	return api.OK
}

// takeFacets lays the facets of things that go beside these; it says no, if a facet of l is to go whose target stays.
func (w *World) takeFacets(l []api.Ref, goes map[api.Ref]struct{}) bool {
	for _, r := range l {
		if w.Kind(r) == api.Facet {
			if _, ok := goes[w.things[r].what.Of]; !ok {
				return false
			}
		}
	}
	for known, facet := range w.facets {
		if _, ok := goes[known.target]; ok {
			goes[facet] = struct{}{}
		}
	}
	return true
}

// held says whether a thing that stays refers to one that goes.
func (w *World) held(goes map[api.Ref]struct{}) bool {
	for r, t := range w.things {
		if _, ok := goes[r]; ok {
			continue
		}
		refs := append(refsOf(&t.what), t.what.By)
		if t.what.Kind != api.Switch {
			refs = append(refs, t.what.Of)
		}
		for _, to := range refs {
			if _, ok := goes[to]; ok {
				return true
			}
		}
	}
	return false
}

// forget takes a thing that goes out of what is kept beside the things, and tells those that stay what they lose by it.
func (w *World) forget(r api.Ref, goes map[api.Ref]struct{}) {
	x := &w.things[r].what
	switch x.Kind {
	case api.Facet:
		delete(w.facets, narrowing{x.Of, x.Set})
	case api.Opener, api.Keeper:
		delete(w.seconds, x.Of)
	case api.Gate:
		if _, ok := goes[x.By]; !ok {
			sw := w.things[x.By].what
			sw.Of = 0
			w.set(x.By, sw)
		}
	case api.Purse:
		if _, ok := goes[x.Of]; !ok {
			mint := w.things[x.Of].what
			mint.Lost += min(x.N, mint.N-mint.Lost)
			w.set(x.Of, mint)
		}
	}
}
