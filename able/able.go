// Package able is layer 1: abilities and their sets, as bits.
package able

import (
	"iter"
	"math/bits"

	"postern/api"
)

// The places of the abilities in their order.
const (
	getPlace = iota
	putPlace
	takePlace
	givePlace
	askPlace
	cutPlace
	places
)

var names = [places]string{
	getPlace:  "get",
	putPlace:  "put",
	takePlace: "take",
	givePlace: "give",
	askPlace:  "ask",
	cutPlace:  "cut",
}

// noneText is the text of the set that has no ability.
const noneText = "-"

// May says whether a has no bit beyond the six.
func May(a api.Able) bool { return a&^api.All == 0 }

// One says whether a is just one ability.
func One(a api.Able) bool { return May(a) && Count(a) == 1 }

// Count tells how many abilities a has.
func Count(a api.Able) int { return bits.OnesCount8(uint8(a & api.All)) }

// Meet tells the abilities that are in all of l.
func Meet(l ...api.Able) api.Able {
	met := api.All
	for _, a := range l {
		met &= a
	}
	return met
}

// Join tells the abilities that are in one of l.
func Join(l ...api.Able) api.Able {
	joined := api.None
	for _, a := range l {
		joined |= a
	}
	return joined & api.All
}

// Less tells the abilities of a that b has not.
func Less(a, b api.Able) api.Able { return a &^ b & api.All }

// Has says whether b is within a.
func Has(a, b api.Able) bool { return Less(b, a) == api.None }

// Each goes over the abilities of a, in their order.
func Each(a api.Able) iter.Seq[api.Able] {
	return func(yield func(api.Able) bool) {
		for place := range places {
			one := api.Able(1) << place
			if a&one != 0 && !yield(one) {
				return
			}
		}
	}
}

// Within goes over all sets within a, rising.
func Within(a api.Able) iter.Seq[api.Able] {
	a &= api.All
	return func(yield func(api.Able) bool) {
		for set := api.None; yield(set) && set != a; {
			set = next(set, a)
		}
	}
}

// next tells the least set within a that is above set: counting in the bits of a alone.
func next(set, a api.Able) api.Able { return (set - a) & a }

// Place tells the place of an ability in their order.
func Place(a api.Able) (int, api.Errno) {
	if !One(a) {
		return 0, api.ErrArg
	}
	return bits.TrailingZeros8(uint8(a)), api.OK
}

// Text tells the text of a set.
func Text(a api.Able) (string, api.Errno) {
	if !May(a) {
		return "", api.ErrArg
	}
	return text(a), api.OK
}

func text(a api.Able) string {
	if a == api.None {
		return noneText
	}
	s := ""
	for one := range Each(a) {
		if s != "" {
			s += "+"
		}
		s += names[bits.TrailingZeros8(uint8(one))]
	}
	return s
}

// Read tells the set whose text s is.
func Read(s string) (api.Able, api.Errno) {
	for a := range Within(api.All) {
		if text(a) == s {
			return a, api.OK
		}
	}
	return api.None, api.ErrAble
}
