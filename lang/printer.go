package lang

import (
	"postern/able"
	"postern/api"
)

// printer tells code that may be token by token; how blocks begin and end, and what stands between statements, is told apart.
type printer struct {
	put                  func(t api.Token)
	open, close, between func()
}

func (p printer) names(l ...string) {
	for _, s := range l {
		p.put(name(s))
	}
}

func (p printer) signs(l ...string) {
	for _, s := range l {
		p.put(sign(s))
	}
}

func (p printer) code(c []api.Stmt) {
	for i, s := range c {
		if i > 0 {
			p.between()
		}
		p.stmt(s)
	}
}

func (p printer) block(c []api.Stmt) {
	p.open()
	p.code(c)
	p.close()
}

// begin tells what stands ahead of a statement's words.
func (p printer) begin(s api.Stmt) {
	p.names(s.Name)
	if s.Second != "" {
		p.names(s.Second)
	}
	p.signs("=")
}

func (p printer) stmt(s api.Stmt) {
	if s.Name != "" {
		p.begin(s)
	}
	switch s.Op {
	case api.Let:
		p.expr(s.A)
	case api.Act:
		p.set(s.Able)
		p.expr(s.A)
		if s.Able != api.Get && s.Able != api.Cut {
			p.expr(s.B)
		}
	case api.Make:
		p.names("make", made(s.What))
		p.making(s)
	case api.Part:
		p.names("part")
		p.expr(s.A)
		p.expr(s.B)
	case api.Same:
		p.names("if", "same")
		p.expr(s.A)
		p.expr(s.B)
		p.branches(s)
	case api.Can:
		p.names("if", "can")
		p.expr(s.A)
		p.set(s.Able)
		p.branches(s)
	case api.Reply:
		p.names("reply")
		p.expr(s.A)
	case api.Fail:
		p.names("fail")
	case api.Await:
		p.names("await")
		p.expr(s.A)
	}
}

// making tells what stands behind the word of a kind.
func (p printer) making(s api.Stmt) {
	switch s.What {
	case api.Cell, api.Gate, api.Tap:
		p.expr(s.A)
	case api.Facet:
		p.expr(s.A)
		p.set(s.Able)
	case api.Clerk:
		p.signs("[")
		p.names(s.With...)
		p.signs("]")
		p.block(s.Code)
	}
}

func (p printer) branches(s api.Stmt) {
	p.block(s.Then)
	p.names("else")
	p.block(s.Else)
}

func (p printer) expr(e api.Expr) {
	switch e.Kind {
	case api.NoExpr:
		p.signs("_")
	case api.ENumber:
		p.put(api.Token{Kind: api.TNumber, N: e.N})
	case api.EText:
		p.put(api.Token{Kind: api.TText, S: e.S})
	case api.EName:
		p.names(e.S)
	case api.EList:
		p.signs("[")
		for _, part := range e.L {
			p.expr(part)
		}
		p.signs("]")
	}
}

func (p printer) set(a api.Able) {
	if a == api.None {
		p.signs("_")
	}
	first := true
	for one := range able.Each(a) {
		if !first {
			p.signs("+")
		}
		first = false
		s, _ := able.Text(one)
		p.names(s)
	}
}
