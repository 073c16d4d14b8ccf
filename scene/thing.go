package scene

import "postern/api"

// thing takes a sentence about a thing.
func (r *reader) thing() {
	n := r.ref()
	kind := r.look()
	says := r.having()[kind.S]
	if kind.Kind != api.TName || says == nil {
		r.stop()
	}
	r.at++
	r.what.Kind = kinds()[kind.S]
	if r.what.Kind != api.Facet {
		r.what.Home = api.Side(r.number())
	}
	says(r)
	r.b.things = append(r.b.things, api.Entry{Ref: n, What: r.what})
}

// having tells by the words of kinds what is said of a thing behind its home.
func (r *reader) having() map[string]func(r *reader) {
	return map[string]func(r *reader){
		"cell":    (*reader).hasValue,
		"log":     (*reader).hasValues,
		"queue":   (*reader).hasValues,
		"tally":   (*reader).hasNumber,
		"sealer":  (*reader).hasNothing,
		"opener":  (*reader).isOf,
		"box":     (*reader).box,
		"mint":    (*reader).mint,
		"purse":   (*reader).purse,
		"promise": (*reader).promise,
		"keeper":  (*reader).isOf,
		"clerk":   (*reader).clerk,
		"switch":  (*reader).sw,
		"gate":    (*reader).wrapper,
		"tap":     (*reader).wrapper,
		"facet":   (*reader).facet,
	}
}

func (r *reader) hasNothing() {}

func (r *reader) hasValue() { r.what.Value = r.value() }

func (r *reader) hasValues() {
	if !isSign(r.look(), "[") {
		r.stop()
	}
	r.what.Values = r.value().L
}

func (r *reader) hasNumber() { r.what.N = r.number() }

func (r *reader) isOf() { r.what.Of = r.ref() }

func (r *reader) box() {
	r.isOf()
	r.hasValue()
}

func (r *reader) mint() {
	r.hasNumber()
	r.what.Lost = r.number()
}

func (r *reader) purse() {
	r.isOf()
	r.hasNumber()
}

func (r *reader) promise() {
	if r.at < len(r.tokens) {
		r.what.Full = true
		r.hasValue()
	}
}

func (r *reader) clerk() {
	r.what.Code = r.block()
	r.what.Names = r.names(func() bool { return r.at < len(r.tokens) })
}

func (r *reader) sw() {
	r.what.Full = r.isWord("cut")
	if !r.what.Full && !r.isWord("open") {
		r.stop()
	}
	r.at++
	if r.at < len(r.tokens) {
		r.isOf()
	}
}

func (r *reader) wrapper() {
	r.isOf()
	r.what.By = r.ref()
}

func (r *reader) facet() {
	r.isOf()
	r.what.Set = r.set()
}
