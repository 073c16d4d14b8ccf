package plain

import (
	"postern/api"
	"postern/value"
	"postern/world"
)

// places is how many abilities there are: what each does stands in an array by its bit.
const places = 6

const (
	get = iota
	put
	take
	give
)

// stand is a thing that is acted on, with what it has.
type stand struct {
	w   *world.World
	r   api.Ref
	has api.What
}

// lay lays what the thing has by now.
func (s *stand) lay() (api.Value, api.Errno) { return api.Value{}, s.w.Lay(s.r, s.has) }

// The kinds, each of which embeds the thing that it stands on.
type (
	cell    struct{ *stand }
	log     struct{ *stand }
	tally   struct{ *stand }
	queue   struct{ *stand }
	promise struct{ *stand }
	keeper  struct{ *stand }
)

// abilities are what a kind does, by the abilities' places.
type abilities[K any] [places]func(k K, v api.Value) (api.Value, api.Errno)

// do does the ability at that place of a thing.
func do(s *stand, place int, v api.Value) (api.Value, api.Errno) {
	switch s.has.Kind {
	case api.Cell:
		return one(abilities[cell]{get: cell.get, put: cell.put}, cell{s}, place, v)
	case api.Log:
		return one(abilities[log]{get: log.get, give: log.give}, log{s}, place, v)
	case api.Tally:
		return one(abilities[tally]{get: tally.get, give: tally.give}, tally{s}, place, v)
	case api.Queue:
		return one(abilities[queue]{give: queue.give, take: queue.take}, queue{s}, place, v)
	case api.Promise:
		return one(abilities[promise]{get: promise.get}, promise{s}, place, v)
	case api.Keeper:
		return one(abilities[keeper]{give: keeper.give}, keeper{s}, place, v)
	}
	return api.Value{}, api.ErrPlain
}

// one does one of the abilities of k.
func one[K any](of abilities[K], k K, place int, v api.Value) (api.Value, api.Errno) {
	does := of[place]
	if does == nil {
		return api.Value{}, api.ErrUnable
	}
	return does(k, v)
}

func (c cell) get(v api.Value) (api.Value, api.Errno) {
	if v.Kind != api.Nothing {
		return api.Value{}, api.ErrArg
	}
	return c.has.Value, api.OK
}

func (c cell) put(v api.Value) (api.Value, api.Errno) {
	c.has.Value = v
	return c.lay()
}

func (l log) get(v api.Value) (api.Value, api.Errno) {
	if v.Kind != api.Nothing {
		return api.Value{}, api.ErrArg
	}
	return value.Of(l.has.Values...)
}

func (l log) give(v api.Value) (api.Value, api.Errno) { return l.append(v) }

func (q queue) give(v api.Value) (api.Value, api.Errno) { return q.append(v) }

// append lays v behind the values that there are.
func (s *stand) append(v api.Value) (api.Value, api.Errno) {
	list, e := value.Of(append(s.has.Values, v)...)
	if e != api.OK {
		return api.Value{}, api.ErrLimit
	}
	s.has.Values = list.L
	return s.lay()
}

func (q queue) take(v api.Value) (api.Value, api.Errno) {
	if v.Kind != api.Number || v.N < 0 {
		return api.Value{}, api.ErrArg
	}
	if v.N > int64(len(q.has.Values)) {
		return api.Value{}, api.ErrShort
	}
	first, _ := value.Of(q.has.Values[:v.N]...)
	q.has.Values = q.has.Values[v.N:]
	_, e := q.lay()
	return first, e
}

func (t tally) get(v api.Value) (api.Value, api.Errno) {
	if v.Kind != api.Nothing {
		return api.Value{}, api.ErrArg
	}
	return api.Value{Kind: api.Number, N: t.has.N}, api.OK
}

func (t tally) give(v api.Value) (api.Value, api.Errno) {
	if v.Kind != api.Number || v.N < 0 {
		return api.Value{}, api.ErrArg
	}
	if v.N > api.MaxMoney-t.has.N {
		return api.Value{}, api.ErrLimit
	}
	t.has.N += v.N
	return t.lay()
}

func (p promise) get(v api.Value) (api.Value, api.Errno) {
	if v.Kind != api.Nothing {
		return api.Value{}, api.ErrArg
	}
	if !p.has.Full {
		return api.Value{}, api.ErrOpen
	}
	return p.has.Value, api.OK
}

func (k keeper) give(v api.Value) (api.Value, api.Errno) {
	kept, e := k.w.What(k.has.Of)
	if e != api.OK {
		return api.Value{}, e
	}
	if kept.Full {
		return api.Value{}, api.ErrDone
	}
	kept.Full, kept.Value = true, v
	return api.Value{}, k.w.Lay(k.has.Of, kept)
}
