package act

import (
	"postern/able"
	"postern/api"
	"postern/fault"
	"postern/shape"
	"postern/world"
)

// place is whence acts are done: in a world, from a side.
type place struct {
	w    *world.World
	from api.Side
}

// hand does what is asked of things, from its place, without anybody who answers for clerks.
type hand struct{ place }

func (h hand) Do(r api.Ref, able api.Able, v api.Value) (api.Value, error) {
	return Do(h.w, h.from, r, able, v, nil)
}

// Thing tells a thing as it is seen from a side.
func Thing(w *world.World, from api.Side, r api.Ref) (api.Thing, api.Errno) {
	switch {
	case w.Sides() == 0:
		return nil, api.ErrNil
	case !isSide(w, from):
		return nil, api.ErrArg
	case !w.Is(r):
		return nil, api.ErrRef
	}
	return shape.Dress(hand{place{w, from}}, r, w.Able(r)), api.OK
}

// Outright does an act on a thing that is asserted to the ability's interface without being asked ahead.
func Outright(w *world.World, from api.Side, r api.Ref, by api.Able, v api.Value, ask Answer) (api.Value, error) {
	t, e := Thing(w, from, r)
	switch {
	case e == api.ErrNil:
		return api.Value{}, failed(e)
	case e == api.ErrArg || !able.One(by):
		return api.Value{}, failed(api.ErrArg)
	case e != api.OK:
		return api.Value{}, failed(e)
	}
	if f, met := fault.Met(func() { assert(t, by) }); met {
		return api.Value{}, f
	}
	return Do(w, from, r, by, v, ask)
}

// assert panics, if t has not the methods of one ability.
func assert(t api.Thing, one api.Able) {
	switch one {
	case api.Get:
		_ = t.(api.Getter)
	case api.Put:
		_ = t.(api.Putter)
	case api.Take:
		_ = t.(api.Taker)
	case api.Give:
		_ = t.(api.Giver)
	case api.Ask:
		_ = t.(api.Asker)
	case api.Cut:
		_ = t.(api.Cutter)
	}
}
