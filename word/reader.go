package word

import (
	"math"
	"strings"

	"postern/api"
)

// stuck is what a reader gives up with: the place up to which all went well.
type stuck struct{ at int }

// caught tells the error of what was recovered, and lays the place; what no reader gave up with goes on as a panic.
func caught(met any, at *int) api.Errno {
	if met == nil {
		return api.OK
	}
	if s, ok := met.(stuck); ok {
		*at = s.at
		return api.ErrForm
	}
	panic(met)
}

// noBound is the bound of a text that has none.
const noBound = math.MaxInt

// reader reads s from the front: at is how far it went well.
type reader struct {
	s  string
	at int
}

// ended stands for the byte behind the last one; no form has it.
const ended = 0

func (r *reader) next() byte {
	if r.at < len(r.s) {
		return r.s[r.at]
	}
	return ended
}

func (r *reader) stop() { panic(stuck{r.at}) }

func (r *reader) end() {
	if r.at < len(r.s) {
		r.stop()
	}
}

// value reads a value of no more than left parts, nested no deeper than nest, and tells how many parts it has.
func (r *reader) value(left, nest int) (api.Value, int) {
	if left < 1 {
		r.stop()
	}
	switch c := r.next(); {
	case c == '_':
		r.at++
		return api.Value{}, 1
	case c == '-' || isDigit(c):
		return api.Value{Kind: api.Number, N: r.number()}, 1
	case c == '"':
		return api.Value{Kind: api.Text, S: r.quoted(api.MaxText)}, 1
	case c == '#':
		return api.Value{Kind: api.Reference, R: r.ref()}, 1
	case c == '[' && nest > 0:
		return r.list(left, nest)
	}
	r.stop()
	return api.Value{}, 0
}

func (r *reader) list(left, nest int) (api.Value, int) {
	v, parts := api.Value{Kind: api.List}, 1
	r.at++
	for r.next() != ']' {
		if len(v.L) > 0 {
			// A blank promises one more part.
			if r.next() != blank || parts == left {
				r.stop()
			}
			r.at++
		}
		part, n := r.value(left-parts, nest-1)
		v.L = append(v.L, part)
		parts += n
	}
	r.at++
	return v, parts
}

func (r *reader) number() int64 {
	if r.next() != '-' {
		return int64(r.digits(true, math.MaxInt64))
	}
	r.at++
	return int64(-r.digits(false, 1<<63))
}

func (r *reader) ref() api.Ref {
	r.at++
	return api.Ref(r.digits(false, math.MaxInt))
}

// digits reads the digits of a number up to most; whether it may be 0 is said.
func (r *reader) digits(zero bool, most uint64) uint64 {
	c := r.next()
	if !isDigit(c) || c == '0' && !zero {
		r.stop()
	}
	n := uint64(c - '0')
	r.at++
	// Behind a 0 no digit goes on.
	for c = r.next(); n > 0 && isDigit(c); c = r.next() {
		digit := uint64(c - '0')
		if n > (most-digit)/10 {
			r.stop()
		}
		n = 10*n + digit
		r.at++
	}
	return n
}

// quoted reads the quoted form of a text of at most that many bytes.
func (r *reader) quoted(most int) string {
	if r.next() != '"' {
		r.stop()
	}
	r.at++
	var text []byte
	for r.next() != '"' {
		if len(text) == most || !isPlain(r.next()) {
			r.stop()
		}
		c := r.next()
		r.at++
		if c == '\\' {
			c = r.escaped()
		}
		text = append(text, c)
	}
	r.at++
	return string(text)
}

// escaped reads what stands behind a backslash, and tells the byte that it is.
func (r *reader) escaped() byte {
	switch c := r.next(); c {
	case '"', '\\':
		r.at++
		return c
	case 'n':
		r.at++
		return '\n'
	case 'x':
		r.at++
		high := r.hex(func(digit byte) bool { return mayEscape(digit<<4) || mayEscape(digit<<4|15) })
		return high<<4 | r.hex(func(digit byte) bool { return mayEscape(high<<4 | digit) })
	}
	r.stop()
	return 0
}

// mayEscape says whether the quoted form of c is its number.
func mayEscape(c byte) bool { return !isPlain(c) && c != '\n' }

// hex reads a digit that may stand there.
func (r *reader) hex(may func(digit byte) bool) byte {
	c := r.next()
	digit := strings.IndexByte(hexDigits, c)
	if digit < 0 || !may(byte(digit)) {
		r.stop()
	}
	r.at++
	return byte(digit)
}

func isDigit(c byte) bool { return c >= '0' && c <= '9' }

func isLetter(c byte) bool { return c >= 'a' && c <= 'z' }
