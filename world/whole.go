package world

import (
	"slices"

	"postern/able"
	"postern/api"
)

// byEach is how many numbers there are for each thing that was ever made: its own, and those of the facets before it.
const byEach = 64

// Tell tells the world as plain data.
func (w *World) Tell() api.World {
	if !w.there() {
		return api.World{}
	}
	x := api.World{Parents: slices.Clone(w.parents), Last: w.last, Made: slices.Clone(w.made)}
	for i, cut := range w.cut {
		if cut {
			x.Cuts = append(x.Cuts, i+1)
		}
	}
	for _, n := range w.gathered() {
		x.Things = append(x.Things, api.Entry{Ref: n.r, What: own(n.t.what)})
	}
	return x
}

// Same says whether both are there and Tell the same.
func Same(a, b *World) bool {
	if !a.there() || !b.there() || len(a.things) != len(b.things) || a.last != b.last {
		return false
	}
	if !slices.Equal(a.parents, b.parents) || !slices.Equal(a.cut, b.cut) || !slices.Equal(a.made, b.made) {
		return false
	}
	for r, t := range a.things {
		u, ok := b.things[r]
		if !ok || t != u && !sameWhat(&t.what, &u.what) {
			return false
		}
	}
	return true
}

// From makes the world that x tells.
func From(x api.World) (*World, api.Errno) {
	w, e := New(x.Parents...)
	if e != api.OK || len(x.Made) != w.Sides() || !w.layCuts(x.Cuts) || !w.layThings(x) || !w.counts(x.Made) {
		return nil, api.ErrWorld
	}
	return w, api.OK
}

// layCuts cuts edges that must rise.
func (w *World) layCuts(cuts []int) bool {
	for i, n := range cuts {
		if !w.isEdge(n) || i > 0 && cuts[i-1] >= n {
			return false
		}
		w.cut[n-1] = true
	}
	return true
}

// layThings lays the things of x, and says whether they are as the table has it.
func (w *World) layThings(x api.World) bool {
	if x.Last < 0 || x.Last > api.MaxLast {
		return false
	}
	w.last = x.Last
	for i, n := range x.Things {
		if n.Ref < 1 || n.Ref > x.Last || i > 0 && x.Things[i-1].Ref >= n.Ref || !fits(&n.What, w.Sides()) {
			return false
		}
		w.things[n.Ref] = &thing{what: own(n.What), able: abilities(n.What.Kind), base: n.Ref}
	}
	for _, n := range x.Things {
		if !w.known(&w.things[n.Ref].what) {
			return false
		}
	}
	return w.settle(x.Things) && w.allJoin(x.Things)
}

// settle finds the abilities and bases of what stands before other things; it says no, where targets come round.
func (w *World) settle(things []api.Entry) bool {
	settled := make(map[api.Ref]struct{})
	for _, n := range things {
		var open []api.Ref
		r := n.Ref
	walk:
		for {
			if _, ok := settled[r]; ok {
				break walk
			}
			open = append(open, r)
			if len(open) > len(things) {
				return false
			}
			switch t := &w.things[r].what; t.Kind {
			case api.Facet, api.Gate, api.Tap:
				r = t.Of
				continue walk
			}
			break walk
		}
		for _, r := range slices.Backward(open) {
			settled[r] = struct{}{}
			w.set(r, w.things[r].what)
		}
	}
	return true
}

// allJoin says whether each Of and By is as the table asks, and nothing is there twice of which there may be one.
func (w *World) allJoin(things []api.Entry) bool {
	for _, n := range things {
		x := &w.things[n.Ref].what
		if !w.joins(x, n.Ref) {
			return false
		}
		if _, there := w.Find(x.Of, x.Set); there && x.Kind == api.Facet {
			return false
		}
		w.index(n.Ref)
	}
	return true
}

// counts lays how many things were made on each side, and says whether that, and the world's last number, may be.
func (w *World) counts(made []int) bool {
	least := make([]int, len(made))
	ahead := 0 // facets that can still be made
	for _, t := range w.things {
		if t.what.Kind == api.Facet {
			ahead--
			continue
		}
		least[t.what.Home]++
		ahead += 1<<able.Count(t.able) - 1
	}
	all := 0
	for s, n := range made {
		if n < least[s] || n > api.MaxThings {
			return false
		}
		all += n
	}
	w.made = slices.Clone(made)
	return int(w.last)+ahead <= byEach*all
}
