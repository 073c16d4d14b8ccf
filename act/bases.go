package act

import (
	"postern/able"
	"postern/api"
	"postern/fault"
	"postern/gate"
	"postern/plain"
	"postern/purse"
	"postern/seal"
	"postern/tap"
	"postern/value"
	"postern/world"
)

// act is an act that came as far as its base.
type act struct {
	w        *world.World
	on, base api.Ref
	by       api.Able
	with     api.Value
	ask      Answer
}

// bases tells what each kind of base does.
func bases() map[api.Kind]func(a act) (api.Value, error) {
	return map[api.Kind]func(a act) (api.Value, error){
		api.Cell:    with(plain.Do),
		api.Log:     with(plain.Do),
		api.Tally:   with(plain.Do),
		api.Queue:   with(plain.Do),
		api.Promise: with(plain.Do),
		api.Keeper:  with(plain.Do),
		api.Sealer:  with(seal.Do),
		api.Opener:  with(seal.Do),
		api.Box:     with(seal.Do),
		api.Switch:  with(gate.Do),
		api.Mint:    onMint,
		api.Purse:   onPurse,
		api.Clerk:   onClerk,
	}
}

// with makes what a base does of a layer's own call, which does it whole or not at all.
func with(do func(w *world.World, r api.Ref, able api.Able, v api.Value) (api.Value, api.Errno)) func(a act) (api.Value, error) {
	return func(a act) (api.Value, error) { return a.told(do(a.w, a.base, a.by, a.with)) }
}

// told tells the answer, and counts; or makes the fault.
func (a act) told(v api.Value, e api.Errno) (api.Value, error) {
	if e != api.OK {
		return api.Value{}, failed(e)
	}
	a.pass()
	return v, nil
}

// drawn tells the reference to a purse that was made.
func (a act) drawn(r api.Ref, e api.Errno) (api.Value, error) {
	return a.told(api.Value{Kind: api.Reference, R: r}, e)
}

func onMint(a act) (api.Value, error) {
	if a.with.Kind != api.Number {
		return api.Value{}, failed(api.ErrArg)
	}
	return a.drawn(purse.Ask(a.w, a.base, a.with.N))
}

func onPurse(a act) (api.Value, error) {
	switch a.by {
	case api.Get:
		n, e := purse.Get(a.w, a.base)
		return a.told(api.Value{Kind: api.Number, N: n}, e)
	case api.Take:
		if a.with.Kind != api.Number {
			return api.Value{}, failed(api.ErrArg)
		}
		return a.drawn(purse.Take(a.w, a.base, a.with.N))
	}
	return a.told(api.Value{}, a.give())
}

// give moves what the purse has to which the argument is a reference.
func (a act) give() api.Errno {
	from := a.w.Base(a.with.R)
	home, _ := a.w.Home(a.base)
	switch {
	case a.with.Kind != api.Reference || !able.Has(a.w.Able(a.with.R), api.Take) || !a.fellow(from):
		return api.ErrPurse
	case a.w.Free(home, a.with.R) != api.OK:
		return api.ErrCut
	}
	e := purse.Move(a.w, a.base, from)
	if e == api.OK {
		tap.Pass(a.w, a.with.R)
	}
	return e
}

// fellow says whether r is a purse of the base's mint, another one than the base.
func (a act) fellow(r api.Ref) bool {
	own, _ := purse.Of(a.w, a.base)
	mint, e := purse.Of(a.w, r)
	return e == api.OK && mint == own && a.w.Kind(r) == api.Purse && r != a.base
}

func onClerk(a act) (api.Value, error) {
	if a.ask == nil {
		return api.Value{}, failed(api.ErrState)
	}
	var answer api.Value
	err := Whole(a.w, func() error {
		with, _ := value.Own(a.with)
		v, err := a.ask(a.w, a.base, with)
		if err != nil {
			f, _ := fault.Over(api.ErrClerk, err)
			return f
		}
		answer, _ = value.Own(v)
		a.pass()
		return nil
	})
	return answer, err
}
