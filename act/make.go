package act

import (
	"postern/able"
	"postern/api"
	"postern/facet"
	"postern/gate"
	"postern/plain"
	"postern/purse"
	"postern/seal"
	"postern/tap"
	"postern/value"
	"postern/world"
)

// maker makes what x says.
type maker func(w *world.World, home api.Side, x api.Making) ([]api.Ref, api.Errno)

// makers tells how each kind is made.
func makers() map[api.Kind]maker {
	return map[api.Kind]maker{
		api.Cell: func(w *world.World, home api.Side, x api.Making) ([]api.Ref, api.Errno) {
			return one(plain.Cell(w, home, x.Value))
		},
		api.Log:     alone(plain.Log),
		api.Tally:   alone(plain.Tally),
		api.Queue:   alone(plain.Queue),
		api.Mint:    alone(purse.Mint),
		api.Sealer:  pair(seal.Pair),
		api.Promise: pair(plain.Promise),
		api.Facet: func(w *world.World, _ api.Side, x api.Making) ([]api.Ref, api.Errno) {
			return one(facet.Narrow(w, x.Of, x.Set))
		},
		api.Gate: before(gate.New),
		api.Tap:  before(tap.Make),
	}
}

func one(r api.Ref, e api.Errno) ([]api.Ref, api.Errno) {
	if e != api.OK {
		return nil, e
	}
	return []api.Ref{r}, api.OK
}

func two(r, q api.Ref, e api.Errno) ([]api.Ref, api.Errno) {
	if e != api.OK {
		return nil, e
	}
	return []api.Ref{r, q}, api.OK
}

func alone(do func(w *world.World, home api.Side) (api.Ref, api.Errno)) maker {
	return func(w *world.World, home api.Side, _ api.Making) ([]api.Ref, api.Errno) { return one(do(w, home)) }
}

func pair(do func(w *world.World, home api.Side) (api.Ref, api.Ref, api.Errno)) maker {
	return func(w *world.World, home api.Side, _ api.Making) ([]api.Ref, api.Errno) { return two(do(w, home)) }
}

func before(do func(w *world.World, home api.Side, target api.Ref) (api.Ref, api.Ref, api.Errno)) maker {
	return func(w *world.World, home api.Side, x api.Making) ([]api.Ref, api.Errno) {
		return two(do(w, home, x.Of))
	}
}

// Make makes what x says.
func Make(w *world.World, home api.Side, x api.Making) ([]api.Ref, api.Errno) {
	makes := makers()[x.Kind]
	switch {
	case w.Sides() == 0:
		return nil, api.ErrNil
	case makes == nil || !isSide(w, home) || !mayMake(x):
		return nil, api.ErrArg
	case asksOf(x.Kind) && !w.Is(x.Of):
		return nil, api.ErrRef
	}
	return makes(w, home, x)
}

// asksOf says whether things of that kind stand before another one.
func asksOf(k api.Kind) bool { return k == api.Facet || k == api.Gate || k == api.Tap }

// mayMake says whether x has nothing that its kind does not name, and nothing that may not be.
func mayMake(x api.Making) bool {
	noValue := x.Value.Kind == api.Nothing || x.Kind == api.Cell
	noOf := x.Of == 0 || asksOf(x.Kind)
	noSet := x.Set == 0 || x.Kind == api.Facet
	return noValue && noOf && noSet && value.May(x.Value) && able.May(x.Set)
}
