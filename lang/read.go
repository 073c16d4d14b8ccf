package lang

import (
	"postern/api"
	"postern/code"
	"postern/word"
)

// Read tells the code whose text s is.
func Read(s string) (c []api.Stmt, at int, e api.Errno) {
	l, at, e := word.Cut(s)
	if e != api.OK {
		return nil, at, e
	}
	p := &parser{l: l}
	// What does not go on comes ahead of what may not be, wherever both stand.
	n, ok := p.goesOn(func() { c = p.code(api.MaxCode) })
	if !ok || n < len(l) {
		return nil, place(s, l, n), api.ErrSyntax
	}
	if at, e := code.Check(c); e != api.OK {
		return nil, place(s, l, p.starts[at]), e
	}
	return c, 0, api.OK
}

// place tells the byte at which the token n stands; behind the last one the end.
func place(s string, l []api.Token, n int) int {
	if n < len(l) {
		return l[n].At
	}
	return len(s)
}

// Front tells the code that the first tokens make, and how many these are.
func Front(l ...api.Token) (c []api.Stmt, n int, e api.Errno) {
	p := &parser{l: l}
	if n, ok := p.goesOn(func() { c = p.code(api.MaxCode) }); !ok {
		return nil, n, api.ErrSyntax
	}
	if at, e := code.Check(c); e != api.OK {
		return nil, p.starts[at], e
	}
	return c, p.at, api.OK
}

// ReadExpr tells the expression whose text s is.
func ReadExpr(s string) (x api.Expr, at int, e api.Errno) {
	l, at, e := word.Cut(s)
	if e != api.OK {
		return api.Expr{}, at, e
	}
	p := &parser{l: l}
	n, ok := p.goesOn(func() { x = p.exprOrNone() })
	if !ok || n < len(l) {
		return api.Expr{}, place(s, l, n), api.ErrSyntax
	}
	if !isNone(x) && !code.MayExpr(x) {
		return api.Expr{}, 0, api.ErrArg
	}
	return x, 0, api.OK
}

// stuck is what a parser gives up with: at its place no code goes on.
type stuck struct{}

// parser reads code from the front of a list of tokens. Where each statement begins it keeps in the walk's order.
type parser struct {
	l      []api.Token
	at     int
	starts []int
}

func (p *parser) stop() { panic(stuck{}) }

// goesOn reads, and tells how many tokens go on, and whether they were all that was wanted.
func (p *parser) goesOn(read func()) (n int, ok bool) {
	defer func() {
		met := recover()
		if met == nil {
			return
		}
		if _, is := met.(stuck); !is {
			panic(met)
		}
		n, ok = p.at, false
	}()
	read()
	return p.at, true
}

// look tells a token from the next one on; none behind the last one, and where one may not be.
func (p *parser) look(ahead int) api.Token {
	if p.at+ahead >= len(p.l) {
		return api.Token{}
	}
	t := p.l[p.at+ahead]
	if _, e := word.Join(t); e == api.ErrArg {
		return api.Token{}
	}
	return t
}

func isSign(t api.Token, s string) bool { return t.Kind == api.TSign && t.S == s }

func isWord(t api.Token, s string) bool { return t.Kind == api.TName && t.S == s }

// take takes the next token, which must be as may says.
func (p *parser) take(may func(t api.Token) bool) api.Token {
	t := p.look(0)
	if !may(t) {
		p.stop()
	}
	p.at++
	return t
}

// which is what a token must be.
type which string

func (w which) sign(t api.Token) bool { return isSign(t, string(w)) }

func (w which) word(t api.Token) bool { return isWord(t, string(w)) }

func (w which) name(t api.Token) bool { return t.Kind == api.TName }

func (p *parser) sign(s string) { p.take(which(s).sign) }

func (p *parser) word(s string) { p.take(which(s).word) }

func (p *parser) name() string { return p.take(which("").name).S }

// code reads statements; of those that stand deeper than left nothing is kept: there are too many anyway.
func (p *parser) code(left int) []api.Stmt {
	if p.at == len(p.l) || isSign(p.look(0), "}") {
		return nil
	}
	// At the top a token that begins no statement goes on nowhere, and no code is a code.
	if left == api.MaxCode && p.look(0).Kind != api.TName {
		return nil
	}
	var c []api.Stmt
	for {
		if s := p.stmt(left); left >= 0 {
			c = append(c, s)
		}
		if !isSign(p.look(0), ";") {
			return c
		}
		p.at++
	}
}

func (p *parser) block(left int) []api.Stmt {
	p.sign("{")
	c := p.code(left - 1)
	p.sign("}")
	return c
}
