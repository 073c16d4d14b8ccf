package lang

import (
	"slices"

	"postern/able"
	"postern/api"
)

// stmt reads a statement: which one it is its first three tokens say.
func (p *parser) stmt(left int) api.Stmt {
	p.starts = append(p.starts, p.at)
	first, second, third := p.look(0), p.look(1), p.look(2)
	switch {
	case first.Kind != api.TName:
		p.stop()
	case isSign(second, "="):
		return p.single(left)
	case second.Kind == api.TName && isSign(third, "="):
		return p.double()
	case first.S == "reply":
		p.at++
		return api.Stmt{Op: api.Reply, A: p.exprOrNone()}
	case first.S == "if" && isWord(second, "same"):
		p.at += 2
		s := api.Stmt{Op: api.Same, A: p.exprOrNone(), B: p.exprOrNone()}
		return p.branches(s, left)
	case first.S == "if" && isWord(second, "can"):
		p.at += 2
		s := api.Stmt{Op: api.Can, A: p.expr(api.MaxNest), Able: p.set()}
		return p.branches(s, left)
	case second.Kind == api.TName:
		// Two names go on to a making of two alone.
		p.at += 2
		p.stop()
	case first.S == "fail":
		p.at++
		return api.Stmt{Op: api.Fail}
	}
	p.at++
	p.stop()
	return api.Stmt{}
}

func (p *parser) branches(s api.Stmt, left int) api.Stmt {
	s.Then = p.block(left)
	p.word("else")
	s.Else = p.block(left)
	return s
}

// single reads a statement of one name.
func (p *parser) single(left int) api.Stmt {
	s := api.Stmt{Name: p.name()}
	p.sign("=")
	verb := p.look(0)
	by := ability(verb.S)
	switch {
	case verb.Kind != api.TName || !begins(p.look(1)):
		// A verb with nothing behind it is a name like others.
		s.Op, s.A = api.Let, p.exprOrNone()
	case by != api.None:
		p.at++
		s.Op, s.Able, s.A = api.Act, by, p.expr(api.MaxNest)
		if by != api.Get && by != api.Cut {
			s.B = p.exprOrNone()
		}
	case verb.S == "part":
		p.at++
		s.Op, s.A, s.B = api.Part, p.expr(api.MaxNest), p.expr(api.MaxNest)
	case verb.S == "await":
		p.at++
		s.Op, s.A = api.Await, p.expr(api.MaxNest)
	case verb.S == "make" && anyOf(p.look(1), ones()):
		p.at++
		return p.makingOne(s, left)
	default:
		s.Op, s.A = api.Let, p.exprOrNone()
	}
	return s
}

// begins says whether an expression begins with t.
func begins(t api.Token) bool {
	switch t.Kind {
	case api.TNumber, api.TText, api.TName:
		return true
	}
	return isSign(t, "[")
}

// ones are the kinds of which one is made, twos those of which two are.
func ones() []api.Kind {
	return []api.Kind{api.Cell, api.Log, api.Tally, api.Queue, api.Mint, api.Facet, api.Clerk}
}

func twos() []api.Kind { return []api.Kind{api.Gate, api.Tap, api.Sealer, api.Promise} }

// anyOf says whether t is the word of one of these kinds.
func anyOf(t api.Token, kinds []api.Kind) bool {
	return slices.ContainsFunc(kinds, func(k api.Kind) bool { return isWord(t, made(k)) })
}

// kind takes the word of one of these kinds.
func (p *parser) kind(kinds []api.Kind) api.Kind {
	t := p.take(func(t api.Token) bool { return anyOf(t, kinds) })
	i := slices.IndexFunc(kinds, func(k api.Kind) bool { return isWord(t, made(k)) })
	return kinds[i]
}

// makingOne reads what stands behind make, where one name stands ahead.
func (p *parser) makingOne(s api.Stmt, left int) api.Stmt {
	s.Op = api.Make
	s.What = p.kind(ones())
	switch s.What {
	case api.Cell:
		s.A = p.exprOrNone()
	case api.Facet:
		s.A, s.Able = p.expr(api.MaxNest), p.set()
	case api.Clerk:
		p.sign("[")
		for !isSign(p.look(0), "]") {
			s.With = append(s.With, p.name())
		}
		p.sign("]")
		s.Code = p.block(left)
	}
	return s
}

// double reads a statement of two names.
func (p *parser) double() api.Stmt {
	s := api.Stmt{Op: api.Make, Name: p.name(), Second: p.name()}
	p.sign("=")
	p.word("make")
	s.What = p.kind(twos())
	if s.What == api.Gate || s.What == api.Tap {
		s.A = p.expr(api.MaxNest)
	}
	return s
}

func (p *parser) exprOrNone() api.Expr {
	if isSign(p.look(0), "_") {
		p.at++
		return api.Expr{}
	}
	return p.expr(api.MaxNest)
}

// expr reads an expression; lists that are nested deeper than nest are left out, as the one around them is too deep already.
func (p *parser) expr(nest int) api.Expr {
	t := p.take(begins)
	switch t.Kind {
	case api.TNumber:
		return api.Expr{Kind: api.ENumber, N: t.N}
	case api.TText:
		return api.Expr{Kind: api.EText, S: t.S}
	case api.TName:
		return api.Expr{Kind: api.EName, S: t.S}
	}
	e := api.Expr{Kind: api.EList}
	for !isSign(p.look(0), "]") {
		if nest == 0 && isSign(p.look(0), "[") {
			p.skip()
		} else {
			e.L = append(e.L, p.expr(nest-1))
		}
	}
	p.at++
	return e
}

// skip takes a list of which nothing is kept.
func (p *parser) skip() {
	for open := 0; ; {
		switch t := p.look(0); {
		case isSign(t, "]"):
			open--
		case isSign(t, "["):
			open++
		case !begins(t):
			p.stop()
		}
		p.at++
		if open == 0 {
			return
		}
	}
}

// set reads a set of abilities in their order.
func (p *parser) set() api.Able {
	if isSign(p.look(0), "_") {
		p.at++
		return api.None
	}
	set := api.None
	for {
		one := ability(p.look(0).S)
		if p.look(0).Kind != api.TName || one <= set {
			p.stop()
		}
		p.at++
		set = able.Join(set, one)
		// Behind the last ability no other one can come.
		if one == api.Cut || !isSign(p.look(0), "+") {
			return set
		}
		p.at++
	}
}
