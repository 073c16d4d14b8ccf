package graph

import (
	"slices"

	"postern/api"
	"postern/world"
)

// joint is the nodes of a graph; of each the place of a lower one of its part is kept, or its own.
type joint struct {
	nodes []api.Node
	lower []int
	at    map[api.Ref]int
}

// join makes the parts of the graph of a world and subjects, in which all may be.
func join(w *world.World, l []api.Subject) *joint {
	j := &joint{at: make(map[api.Ref]int)}
	for who := range l {
		j.add(api.Node{Who: who})
	}
	for r := range w.Things() {
		j.at[r] = len(j.nodes)
		j.add(api.Node{Is: true, Ref: r})
	}
	for who, s := range l {
		j.all(who, named(s.Names))
	}
	for r := range w.Things() {
		x, _ := w.What(r)
		j.all(j.at[r], slices.Concat(lies(x), links(x), fellows(x)))
	}
	return j
}

// fellows tells the things with which a thing is joined besides.
func fellows(x api.What) []api.Ref {
	switch x.Kind {
	case api.Opener, api.Box, api.Purse:
		return []api.Ref{x.Of}
	case api.Switch:
		if x.Of != 0 {
			return []api.Ref{x.Of}
		}
	}
	return nil
}

func (j *joint) add(n api.Node) {
	j.lower = append(j.lower, len(j.nodes))
	j.nodes = append(j.nodes, n)
}

// all joins a node with things.
func (j *joint) all(i int, l []api.Ref) {
	for _, r := range l {
		a, b := j.lowest(i), j.lowest(j.at[r])
		j.lower[max(a, b)] = min(a, b)
	}
}

// lowest tells the lowest node of a part, and shortens the way to it.
func (j *joint) lowest(i int) int {
	for j.lower[i] != i {
		j.lower[i] = j.lower[j.lower[i]]
		i = j.lower[i]
	}
	return i
}

// Parts tells the parts of the graph.
func Parts(w *world.World, l ...api.Subject) ([][]api.Node, api.Errno) {
	if e := subjects(w, l...); e != api.OK {
		return nil, e
	}
	j := join(w, l)
	var parts [][]api.Node
	place := make(map[int]int)
	for i, n := range j.nodes {
		low := j.lowest(i)
		if low == i {
			place[i] = len(parts)
			parts = append(parts, nil)
		}
		parts[place[low]] = append(parts[place[low]], n)
	}
	return parts, api.OK
}

// Joined says whether both are in one part.
func Joined(w *world.World, a, b api.Node, l ...api.Subject) (bool, api.Errno) {
	if e := subjects(w, l...); e != api.OK {
		return false, e
	}
	for _, n := range [...]api.Node{a, b} {
		if n.Is && n.Who != 0 || !n.Is && (n.Ref != 0 || n.Who < 0 || n.Who >= len(l)) {
			return false, api.ErrArg
		}
	}
	for _, n := range [...]api.Node{a, b} {
		if n.Is && !w.Is(n.Ref) {
			return false, api.ErrRef
		}
	}
	j := join(w, l)
	place := func(n api.Node) int {
		if n.Is {
			return j.at[n.Ref]
		}
		return n.Who
	}
	return j.lowest(place(a)) == j.lowest(place(b)), api.OK
}
