package scene

import (
	"slices"
	"strings"

	"postern/api"
	"postern/lang"
	"postern/word"
)

// Text tells the text of a scene.
func Text(s api.Scene) (string, api.Errno) {
	if Check(s) != api.OK {
		return "", api.ErrArg
	}
	p := &printer{}
	p.world(s.World)
	for _, x := range s.Subjects {
		p.subject(x)
	}
	for _, c := range s.Cues {
		p.cue(c)
	}
	if p.long || p.text.Len() > api.MaxScene {
		return "", api.ErrLong
	}
	return p.text.String(), api.OK
}

// printer lays sentences, a line each.
type printer struct {
	text strings.Builder
	line []api.Token
	long bool
}

// end ends a sentence.
func (p *printer) end() {
	s, e := word.Join(p.line...)
	p.long = p.long || e != api.OK || p.text.Len() > api.MaxScene
	p.line = p.line[:0]
	if !p.long {
		p.text.WriteString(s)
		p.text.WriteByte('\n')
	}
}

func (p *printer) put(l ...api.Token) { p.line = append(p.line, l...) }

func (p *printer) words(l ...string) {
	for _, s := range l {
		p.put(api.Token{Kind: api.TName, S: s})
	}
}

func (p *printer) signs(s string) { p.put(api.Token{Kind: api.TSign, S: s}) }

func (p *printer) number(n int64) { p.put(api.Token{Kind: api.TNumber, N: n}) }

func (p *printer) refs(l ...api.Ref) {
	for _, r := range l {
		p.put(api.Token{Kind: api.TRef, R: r})
	}
}

func (p *printer) value(v api.Value) {
	l, _ := word.Tokens(v)
	p.put(l...)
}

func (p *printer) block(c []api.Stmt) {
	l, _ := lang.Tokens(c)
	p.signs("{")
	p.put(l...)
	p.signs("}")
}

func (p *printer) names(names []api.Name) {
	for i, n := range names {
		if i > 0 {
			p.signs(",")
		}
		p.words(n.Name)
		p.signs("=")
		p.value(n.Value)
	}
}

// numbers lays a sentence of a word and numbers.
func (p *printer) numbers(word string, l ...int) {
	p.words(word)
	for _, n := range l {
		p.number(int64(n))
	}
	p.end()
}

func (p *printer) world(x api.World) {
	for _, parent := range x.Parents {
		p.numbers("side", int(parent))
	}
	for _, edge := range x.Cuts {
		p.numbers("cut", edge)
	}
	if x.Last != greatest(x.Things) {
		p.numbers("last", int(x.Last))
	}
	for side, least := range counted(x.Things, len(x.Made)) {
		if x.Made[side] != least {
			p.numbers("made", side, x.Made[side])
		}
	}
	for _, t := range x.Things {
		p.thing(t)
	}
}

func (p *printer) thing(t api.Entry) {
	x := t.What
	p.refs(t.Ref)
	p.words(wordOf(x.Kind))
	if x.Kind != api.Facet {
		p.number(int64(x.Home))
	}
	switch x.Kind {
	case api.Cell:
		p.value(x.Value)
	case api.Log, api.Queue:
		p.value(api.Value{Kind: api.List, L: x.Values})
	case api.Tally:
		p.number(x.N)
	case api.Opener, api.Keeper:
		p.refs(x.Of)
	case api.Box:
		p.refs(x.Of)
		p.value(x.Value)
	case api.Mint:
		p.number(x.N)
		p.number(x.Lost)
	case api.Purse:
		p.refs(x.Of)
		p.number(x.N)
	case api.Promise:
		if x.Full {
			p.value(x.Value)
		}
	case api.Clerk:
		p.block(x.Code)
		p.names(x.Names)
	case api.Switch:
		p.sw(x)
	case api.Gate, api.Tap:
		p.refs(x.Of, x.By)
	case api.Facet:
		p.refs(x.Of)
		p.set(x.Set)
	}
	p.end()
}

func (p *printer) sw(x api.What) {
	if x.Full {
		p.words("cut")
	} else {
		p.words("open")
	}
	if x.Of != 0 {
		p.refs(x.Of)
	}
}

func (p *printer) set(a api.Able) {
	s, _ := lang.Set(a)
	l, _, _ := word.Cut(s)
	p.put(l...)
}

func (p *printer) subject(s api.Subject) {
	p.words("subject")
	p.number(int64(s.Side))
	p.block(s.Code)
	p.names(s.Names)
	if !slices.Equal(s.Seen, seenIn(s.Names)) {
		p.words("seen")
		p.signs("[")
		for _, r := range s.Seen {
			p.number(int64(r))
		}
		p.signs("]")
	}
	p.end()
}

func (p *printer) cue(c api.Cue) {
	switch {
	case c.Ask.Word != "":
		p.words("ask", c.Ask.Word)
		for _, v := range c.Ask.Args {
			p.value(v)
		}
		p.end()
	case c.Turn.Edge != 0:
		p.numbers("edge", c.Turn.Edge)
	default:
		p.numbers("turn", c.Turn.Who)
	}
}

// wordOf tells the word of a kind of things.
func wordOf(k api.Kind) string {
	for word, kind := range kinds() {
		if kind == k {
			return word
		}
	}
	return ""
}

// kinds tells the kinds by their words.
func kinds() map[string]api.Kind {
	return map[string]api.Kind{
		"cell": api.Cell, "log": api.Log, "tally": api.Tally, "queue": api.Queue,
		"sealer": api.Sealer, "opener": api.Opener, "box": api.Box, "mint": api.Mint,
		"purse": api.Purse, "promise": api.Promise, "keeper": api.Keeper, "clerk": api.Clerk,
		"switch": api.Switch, "facet": api.Facet, "gate": api.Gate, "tap": api.Tap,
	}
}
