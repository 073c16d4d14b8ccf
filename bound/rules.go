package bound

import (
	"postern/able"
	"postern/api"
)

// held is that a holder holds what has a mark, by which it can that set (with the bit for at all); with no mark only that it is there.
type held struct {
	pair
	set api.Able
}

// bring is what a rule brings about from facts: a set of a pair; or, if from is a row, that what is there of any mark is in the pair's row, too.
type bring struct {
	rule  int
	needs []fact
	pair
	set  api.Able
	from int
}

// rule tells what it brings about by what is held.
type rule func(h held, tell func(b bring))

// rules are the rules from 1 on.
func (f *Facts) rules() [5]rule {
	return [...]rule{f.lie, f.seal, f.mint, f.make, f.ask}
}

// each ability by which an act is done: of those that the holder's code has, if the way is open.
func (f *Facts) acts(h held, of api.Able, tell func(a api.Able, needs []fact)) {
	if h.mark == none || !f.g.isOpen(h.row, h.mark) {
		return
	}
	for a := range able.Each(h.set & of & f.g.uses[h.row].Able) {
		tell(a, []fact{{h.pair, a}})
	}
}

// flow makes the bring of all that is in a row.
func flow(rule, from, to int, needs []fact) bring {
	return bring{rule: rule, needs: needs, pair: pair{to, none}, from: from}
}

// lie is rule 1: what is told of what has something, and laid there.
func (f *Facts) lie(h held, tell func(b bring)) {
	f.acts(h, api.Get|api.Take|api.Put|api.Give, func(a api.Able, needs []fact) {
		base := f.g.bases[h.mark]
		x := f.g.things[base]
		out := a == api.Get || a == api.Take
		switch x.Kind {
		case api.Cell, api.Log, api.Queue:
			if out {
				tell(flow(1, f.g.rowOf[base], h.row, needs))
			} else {
				tell(flow(1, h.row, f.g.rowOf[base], needs))
			}
		case api.Promise:
			if out {
				tell(flow(1, f.g.rowOf[base], h.row, needs))
			}
		case api.Keeper:
			if !out && f.g.opens(x.Of) {
				tell(flow(1, h.row, f.g.rowOf[f.g.markOf(x.Of)], needs))
			}
		}
	})
}

// seal is rule 2: boxes that are sealed, and opened.
func (f *Facts) seal(h held, tell func(b bring)) {
	if h.mark == none {
		return
	}
	f.acts(h, api.Ask, func(_ api.Able, needs []fact) {
		base := f.g.bases[h.mark]
		switch x := f.g.things[base]; x.Kind {
		case api.Sealer:
			box := f.g.spotAt[api.Spot{Kind: api.SpotBox, Ref: f.g.spots[base].Ref, Of: f.g.holders[h.row]}]
			tell(bring{rule: 2, needs: needs, pair: pair{h.row, box}, set: atAll, from: none})
			tell(flow(2, h.row, f.g.rowOf[box], needs))
		case api.Opener:
			for _, box := range f.g.boxes[x.Of] {
				f.opened(h.row, h.mark, box, tell)
			}
		}
	})
	if h.set&atAll == 0 {
		return
	}
	sealer := f.g.spots[h.mark].Ref
	if x := f.g.things[h.mark]; x.Kind == api.Box {
		sealer = x.Of
	} else if f.g.spots[h.mark].Kind != api.SpotBox {
		return
	}
	for _, opener := range f.g.openers[sealer] {
		f.opened(h.row, opener, h.mark, tell)
	}
}

// opened tells what comes out of a box for who holds it, and may ask what opens it.
func (f *Facts) opened(who, opener, box int, tell func(b bring)) {
	ask, held := fact{pair{who, opener}, api.Ask}, fact{pair{who, box}, atAll}
	if f.has(ask) && f.has(held) && f.g.isOpen(who, opener) && able.Has(f.g.uses[who].Able, api.Ask) {
		tell(flow(2, f.g.rowOf[box], who, []fact{ask, held}))
	}
}

// mint is rule 3: purses that are made, and parted.
func (f *Facts) mint(h held, tell func(b bring)) {
	f.acts(h, api.Ask|api.Take, func(a api.Able, needs []fact) {
		base := f.g.bases[h.mark]
		x, spot := f.g.things[base], f.g.spots[base]
		of := api.Ref(0)
		switch {
		case a == api.Ask && x.Kind == api.Mint, a == api.Take && spot.Kind == api.SpotPurse:
			of = spot.Ref
		case a == api.Take && x.Kind == api.Purse:
			of = x.Of
		default:
			return
		}
		purse := f.g.spotAt[api.Spot{Kind: api.SpotPurse, Ref: of}]
		tell(bring{rule: 3, needs: needs, pair: pair{h.row, purse}, set: atAll | api.Get | api.Take | api.Give, from: none})
	})
}

// make is rule 4: what is made later.
func (f *Facts) make(h held, tell func(b bring)) {
	uses := f.g.uses[h.row]
	if h.mark == none {
		if uses.Makes || uses.Able&(api.Ask|api.Take) != 0 {
			own := f.g.spotAt[api.Spot{Kind: api.SpotMade, Of: f.g.holders[h.row]}]
			tell(bring{rule: 4, pair: pair{h.row, own}, set: atAll | api.All, from: none})
		}
		return
	}
	if f.g.spots[h.mark].Kind != api.SpotMade || h.set&atAll == 0 || !f.g.isOpen(h.row, h.mark) || !uses.Makes && uses.Able == api.None {
		return
	}
	needs := []fact{{h.pair, atAll}}
	tell(flow(4, f.g.rowOf[h.mark], h.row, needs))
	tell(flow(4, h.row, f.g.rowOf[h.mark], needs))
}

// ask is rule 5: what clerks are asked, and answer.
func (f *Facts) ask(h held, tell func(b bring)) {
	f.acts(h, api.Ask, func(_ api.Able, needs []fact) {
		base := f.g.bases[h.mark]
		if f.g.things[base].Kind != api.Clerk {
			return
		}
		clerk := f.g.rowOf[base]
		tell(flow(5, h.row, clerk, needs))
		if f.g.uses[clerk].Replies {
			tell(flow(5, clerk, h.row, needs))
		}
	})
}

// all tells what the rules bring about by each holder's own being there.
func (f *Facts) all(tell func(b bring)) {
	for who := range f.g.holders {
		for _, r := range f.rules() {
			r(held{pair: pair{who, none}}, tell)
		}
	}
}
