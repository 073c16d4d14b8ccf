package snap

import "postern/api"

// thing goes over a thing: its number, its kind, and what a thing of that kind has.
func (c codec) thing(e *api.Entry) {
	count(c, &e.Ref)
	octet(c, &e.What.Kind)
	kinds := c.kinds()
	if int(e.What.Kind) >= len(kinds) || kinds[e.What.Kind] == nil {
		panic(stop{api.ErrSnap})
	}
	kinds[e.What.Kind](&e.What)
}

// kinds tells by kinds how to go over what a thing has.
func (c codec) kinds() [api.Tap + 1]func(x *api.What) {
	return [...]func(x *api.What){
		api.Cell:    c.cell,
		api.Log:     c.values,
		api.Tally:   c.tally,
		api.Queue:   c.values,
		api.Sealer:  c.home,
		api.Opener:  c.of,
		api.Box:     c.box,
		api.Mint:    c.mint,
		api.Purse:   c.purse,
		api.Promise: c.promise,
		api.Keeper:  c.of,
		api.Clerk:   c.clerk,
		api.Switch:  c.sw,
		api.Facet:   c.facet,
		api.Gate:    c.wrapper,
		api.Tap:     c.wrapper,
	}
}

func (c codec) home(x *api.What) { count(c, &x.Home) }

func (c codec) of(x *api.What) {
	c.home(x)
	count(c, &x.Of)
}

func (c codec) cell(x *api.What) {
	c.home(x)
	c.val(&x.Value)
}

func (c codec) values(x *api.What) {
	c.home(x)
	list(c, &x.Values, api.MaxParts, c.val)
}

func (c codec) tally(x *api.What) {
	c.home(x)
	c.number(&x.N)
}

func (c codec) box(x *api.What) {
	c.of(x)
	c.val(&x.Value)
}

func (c codec) mint(x *api.What) {
	c.tally(x)
	c.number(&x.Lost)
}

func (c codec) purse(x *api.What) {
	c.of(x)
	c.number(&x.N)
}

func (c codec) promise(x *api.What) {
	c.home(x)
	c.flag(&x.Full)
	c.val(&x.Value)
}

func (c codec) clerk(x *api.What) {
	c.home(x)
	c.code(&x.Code, maxDeep)
	c.names(&x.Names)
}

func (c codec) sw(x *api.What) {
	c.home(x)
	c.flag(&x.Full)
	count(c, &x.Of)
}

func (c codec) facet(x *api.What) {
	count(c, &x.Of)
	octet(c, &x.Set)
}

func (c codec) wrapper(x *api.What) {
	c.of(x)
	count(c, &x.By)
}
