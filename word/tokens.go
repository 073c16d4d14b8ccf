package word

import (
	"strconv"
	"strings"

	"postern/api"
)

const signs = "[](){}=:;,.+<>_?"

// Cut tells the tokens of a line.
func Cut(line string) (l []api.Token, at int, e api.Errno) {
	if len(line) > api.MaxLine {
		return nil, 0, api.ErrLong
	}
	c := &cutter{reader: reader{s: line}}
	defer func() {
		if e = caught(recover(), &at); e != api.OK {
			l = nil
		}
	}()
	for c.pass(); c.at < len(line); c.pass() {
		l = append(l, c.token())
	}
	return l, 0, api.OK
}

// cutter reads tokens; open says whether it stands right behind one that is no sign.
type cutter struct {
	reader
	open bool
}

// pass passes blanks over.
func (c *cutter) pass() {
	for c.next() == blank {
		c.at++
		c.open = false
	}
}

func (c *cutter) token() api.Token {
	t := api.Token{At: c.at}
	first := c.next()
	switch {
	case strings.IndexByte(signs, first) >= 0:
		c.at++
		c.open = false
		t.Kind, t.S = api.TSign, string(signs[strings.IndexByte(signs, first)])
		return t
	case c.open:
		c.stop()
	case isLetter(first):
		t.Kind, t.S = api.TName, c.name()
	case isDigit(first) || first == '-':
		t.Kind, t.N = api.TNumber, c.whole(0)
	case first == '#':
		t.Kind, t.R = api.TRef, api.Ref(c.whole(1))
	case first == '"':
		t.Kind, t.S = api.TText, c.quoted(noBound)
	default:
		c.stop()
	}
	c.open = true
	return t
}

// name takes a name, or stops at its first byte.
func (c *cutter) name() string {
	end := c.at
	for end < len(c.s) && (isLetter(c.s[end]) || isDigit(c.s[end])) {
		end++
	}
	if end-c.at > api.MaxName {
		c.stop()
	}
	name := c.s[c.at:end]
	c.at = end
	return name
}

// whole takes a number, behind so many bytes that stand ahead of it, or stops at its first byte; behind a sign it must be 1 or more.
func (c *cutter) whole(ahead int) int64 {
	end := c.at + 1
	for end < len(c.s) && isDigit(c.s[end]) {
		end++
	}
	digits := c.s[c.at+ahead : end]
	n, err := strconv.ParseInt(digits, 10, 64)
	if err != nil || strconv.FormatInt(n, 10) != digits || ahead > 0 && (n < 1 || n != int64(api.Ref(n))) {
		c.stop()
	}
	c.at = end
	return n
}

// mayToken says whether t is a token that may be.
func mayToken(t api.Token) bool {
	noN, noS, noR := t.N == 0, t.S == "", t.R == 0
	switch t.Kind {
	case api.TName:
		return noN && noR && isName(t.S)
	case api.TNumber:
		return noS && noR
	case api.TText:
		return noN && noR
	case api.TRef:
		return noN && noS && t.R >= 1
	case api.TSign:
		return noN && noR && len(t.S) == 1 && strings.Contains(signs, t.S)
	}
	return false
}

func isName(s string) bool {
	if len(s) < 1 || len(s) > api.MaxName || !isLetter(s[0]) {
		return false
	}
	for i := range len(s) {
		if !isLetter(s[i]) && !isDigit(s[i]) {
			return false
		}
	}
	return true
}

// tokens reads values from the front of a list of tokens.
type tokens struct {
	l  []api.Token
	at int
}

func (r *tokens) stop() { panic(stuck{r.at}) }

// sign says whether that sign stands next.
func (r *tokens) sign(s string) bool {
	if r.at == len(r.l) || !mayToken(r.l[r.at]) {
		r.stop()
	}
	return r.l[r.at].Kind == api.TSign && r.l[r.at].S == s
}

// value reads a value of no more than left parts, nested no deeper than nest, and tells how many parts it has.
func (r *tokens) value(left, nest int) (v api.Value, parts int) {
	list, none := r.sign("["), r.sign("_")
	t := r.l[r.at]
	switch {
	case left < 1:
		r.stop()
	case list && nest > 0:
		return r.list(left, nest)
	case none:
	case t.Kind == api.TNumber:
		v = api.Value{Kind: api.Number, N: t.N}
	case t.Kind == api.TText && len(t.S) <= api.MaxText:
		v = api.Value{Kind: api.Text, S: t.S}
	case t.Kind == api.TRef:
		v = api.Value{Kind: api.Reference, R: t.R}
	default:
		r.stop()
	}
	r.at++
	return v, 1
}

func (r *tokens) list(left, nest int) (api.Value, int) {
	v, parts := api.Value{Kind: api.List}, 1
	for r.at++; !r.sign("]"); {
		part, n := r.value(left-parts, nest-1)
		v.L = append(v.L, part)
		parts += n
	}
	r.at++
	return v, parts
}
