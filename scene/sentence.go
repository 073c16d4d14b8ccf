package scene

import (
	"postern/able"
	"postern/api"
	"postern/lang"
	"postern/word"
)

// reader takes tokens from the front of a sentence.
type reader struct {
	sentence
	at   int
	b    *builder
	what api.What // what is said of a thing
}

// read takes a sentence.
func (b *builder) read(x sentence) {
	r := &reader{sentence: x, b: b}
	if r.look().Kind == api.TRef {
		r.thing()
	} else {
		does := r.beginning()[r.look().S]
		if r.look().Kind != api.TName || does == nil {
			r.stop()
		}
		r.at++
		does(r)
	}
	if r.at < len(r.tokens) {
		r.stop()
	}
}

// look tells the next token; none behind the last one.
func (r *reader) look() api.Token {
	if r.at < len(r.tokens) {
		return r.tokens[r.at]
	}
	return api.Token{}
}

func (r *reader) stop() { r.fail(r.at, api.ErrScene) }

// fail gives up at a token; behind the last one at the end of the last line.
func (r *reader) fail(n int, e api.Errno) {
	if n < len(r.tokens) {
		panic(stuck{r.lines[n], r.tokens[n].At, e})
	}
	panic(stuck{r.last, r.long, e})
}

// beginning tells what a sentence says by its first word.
func (r *reader) beginning() map[string]func(r *reader) {
	return map[string]func(r *reader){
		"side":    (*reader).side,
		"cut":     (*reader).cut,
		"last":    (*reader).lastOne,
		"made":    (*reader).madeOn,
		"subject": (*reader).subject,
		"turn":    (*reader).turn,
		"edge":    (*reader).edge,
		"ask":     (*reader).ask,
	}
}

func (r *reader) side() { r.b.parents = append(r.b.parents, api.Side(r.number())) }

func (r *reader) cut() { r.b.cuts = append(r.b.cuts, int(r.number())) }

func (r *reader) lastOne() { r.b.last = append(r.b.last, api.Ref(r.number())) }

func (r *reader) madeOn() {
	side, n := api.Side(r.number()), int(r.number())
	_, twice := r.b.made[side]
	r.b.wrong = r.b.wrong || twice
	r.b.made[side] = n
}

func (r *reader) turn() {
	r.b.cues = append(r.b.cues, api.Cue{Turn: api.Turn{Who: int(r.number())}})
}

func (r *reader) edge() {
	n := int(r.number())
	r.b.wrong = r.b.wrong || n == 0
	r.b.cues = append(r.b.cues, api.Cue{Turn: api.Turn{Edge: n}})
}

func (r *reader) ask() {
	q := api.Quest{Word: r.name()}
	for r.at < len(r.tokens) {
		q.Args = append(q.Args, r.value())
	}
	r.b.cues = append(r.b.cues, api.Cue{Ask: q})
}

func (r *reader) subject() {
	s := api.Subject{Side: api.Side(r.number()), Code: r.block()}
	seen := func() bool { return r.isWord("seen") && !r.ahead("=") }
	s.Names = r.names(func() bool { return r.at < len(r.tokens) && !seen() })
	s.Seen = seenIn(s.Names)
	if seen() {
		r.at++
		s.Seen = nil
		for r.sign("["); !isSign(r.look(), "]"); {
			s.Seen = append(s.Seen, api.Ref(r.number()))
		}
		r.sign("]")
	}
	r.b.subjects = append(r.b.subjects, s)
}

func (r *reader) isWord(s string) bool { return r.look().Kind == api.TName && r.look().S == s }

// ahead says whether that sign stands behind the next token.
func (r *reader) ahead(s string) bool { return r.at+1 < len(r.tokens) && isSign(r.tokens[r.at+1], s) }

// names takes names, if there are any.
func (r *reader) names(any func() bool) []api.Name {
	if !any() {
		return nil
	}
	take := func() api.Name {
		name := r.name()
		r.sign("=")
		return api.Name{Name: name, Value: r.value()}
	}
	names := []api.Name{take()}
	for isSign(r.look(), ",") {
		r.at++
		names = append(names, take())
	}
	return names
}

func (r *reader) take(kind api.TokenKind) api.Token {
	t := r.look()
	if t.Kind != kind {
		r.stop()
	}
	r.at++
	return t
}

func (r *reader) number() int64 { return r.take(api.TNumber).N }

func (r *reader) ref() api.Ref { return r.take(api.TRef).R }

func (r *reader) name() string { return r.take(api.TName).S }

func (r *reader) sign(s string) {
	if !isSign(r.look(), s) {
		r.stop()
	}
	r.at++
}

func (r *reader) value() api.Value {
	v, n, e := word.Front(r.tokens[r.at:]...)
	r.at += n
	if e != api.OK {
		r.stop()
	}
	return v
}

// block takes a block: its code as a whole, where it stands.
func (r *reader) block() []api.Stmt {
	r.sign("{")
	c, n, e := lang.Front(r.tokens[r.at:]...)
	r.at += n
	if e == api.OK && !isSign(r.look(), "}") {
		e = api.ErrSyntax
	}
	if e != api.OK {
		r.fail(r.at, e)
	}
	r.at++
	return c
}

// set takes a set of abilities in their order.
func (r *reader) set() api.Able {
	if isSign(r.look(), "_") {
		r.at++
		return api.None
	}
	set := api.None
	for {
		one, e := able.Read(r.look().S)
		if r.look().Kind != api.TName || e != api.OK || one <= set {
			r.stop()
		}
		r.at++
		set |= one
		// Behind the last ability no other one can come.
		if one == api.Cut || !isSign(r.look(), "+") {
			return set
		}
		r.at++
	}
}
