package snap

import (
	"postern/api"
	"postern/value"
)

// codec goes over plain data: one that lays it tells it as bytes, one that takes it fills it out of bytes.
// So what a thing has is told once, for both.
type codec struct {
	wide  func(x uint64, bytes int) uint64
	text  func(s string, bytes int) string
	value func(v api.Value) api.Value
	takes bool
}

// stop is what a codec gives up with.
type stop struct{ e api.Errno }

// caught tells the error with which do gave up.
func caught(do func()) (e api.Errno) {
	defer func() {
		met := recover()
		if met == nil {
			return
		}
		if s, ok := met.(stop); ok {
			e = s.e
			return
		}
		panic(met)
	}()
	do()
	return api.OK
}

// layer makes a codec that lays bytes behind b, up to so many.
func layer(b *[]byte, most int) codec {
	put := func(s string) {
		if len(s) > most-len(*b) {
			panic(stop{api.ErrLong})
		}
		*b = append(*b, s...)
	}
	return codec{
		wide: func(x uint64, bytes int) uint64 {
			var w [8]byte
			for i := range bytes {
				w[bytes-1-i] = byte(x >> (8 * i))
			}
			put(string(w[:bytes]))
			return x
		},
		text: func(s string, _ int) string {
			put(s)
			return s
		},
		value: func(v api.Value) api.Value {
			s, e := value.Bytes(v)
			if e != api.OK {
				panic(stop{e})
			}
			put(s)
			return v
		},
	}
}

// taker makes a codec that takes bytes from the front of what is left.
func taker(left *string) codec {
	take := func(bytes int) string {
		if bytes > len(*left) {
			panic(stop{api.ErrSnap})
		}
		s := (*left)[:bytes]
		*left = (*left)[bytes:]
		return s
	}
	return codec{
		wide: func(_ uint64, bytes int) uint64 {
			x := uint64(0)
			for _, c := range []byte(take(bytes)) {
				x = x<<8 | uint64(c)
			}
			return x
		},
		text: func(_ string, bytes int) string { return take(bytes) },
		value: func(api.Value) api.Value {
			v, rest, e := value.Front(*left)
			if e != api.OK {
				panic(stop{api.ErrSnap})
			}
			*left = rest
			return v
		},
		takes: true,
	}
}

// fill lays what was taken; where nothing is taken, what was told is not written to.
func fill[T any](c codec, x *T, taken T) {
	if c.takes {
		*x = taken
	}
}

// count goes over a number of four bytes.
func count[T ~int](c codec, x *T) { fill(c, x, T(c.wide(uint64(*x), 4))) }

// octet goes over a byte.
func octet[T ~uint8](c codec, x *T) { fill(c, x, T(c.wide(uint64(*x), 1))) }

// topBit turns numbers into wide words of the same order.
const topBit = 1 << 63

func (c codec) number(x *int64) { fill(c, x, int64(c.wide(uint64(*x)^topBit, 8)^topBit)) }

func (c codec) string(s *string) {
	n := len(*s)
	count(c, &n)
	fill(c, s, c.text(*s, n))
}

func (c codec) flag(is *bool) {
	x := uint8(0)
	if *is {
		x = 1
	}
	if octet(c, &x); x > 1 {
		panic(stop{api.ErrSnap})
	}
	fill(c, is, x == 1)
}

func (c codec) val(v *api.Value) { fill(c, v, c.value(*v)) }

// list goes over a list. Of what is taken no more is kept than one more than most: what has so many is refused.
func list[T any](c codec, l *[]T, most int, item func(x *T)) {
	n := len(*l)
	count(c, &n)
	for i := range n {
		if !c.takes {
			item(&(*l)[i])
			continue
		}
		var x T
		item(&x)
		if i <= most {
			*l = append(*l, x)
		}
	}
}

// anyLength is the bound of lists of which each may be.
const anyLength = api.MaxSnap

// maxDeep is how deep expressions and statements may be nested: bytes that are nested deeper are promised nothing.
const maxDeep = 1 << 16

func (c codec) expr(e *api.Expr, left int) {
	if left == 0 {
		c.tooDeep()
	}
	octet(c, &e.Kind)
	c.number(&e.N)
	c.string(&e.S)
	list(c, &e.L, anyLength, func(part *api.Expr) { c.expr(part, left-1) })
}

func (c codec) tooDeep() {
	if c.takes {
		panic(stop{api.ErrSnap})
	}
	panic(stop{api.ErrLong})
}

func (c codec) stmt(s *api.Stmt, left int) {
	octet(c, &s.Op)
	c.string(&s.Name)
	c.string(&s.Second)
	octet(c, &s.Able)
	octet(c, &s.What)
	c.expr(&s.A, maxDeep)
	c.expr(&s.B, maxDeep)
	c.code(&s.Then, left-1)
	c.code(&s.Else, left-1)
	c.code(&s.Code, left-1)
	list(c, &s.With, anyLength, c.string)
}

func (c codec) code(l *[]api.Stmt, left int) {
	if left == 0 {
		c.tooDeep()
	}
	list(c, l, api.MaxCode, func(s *api.Stmt) { c.stmt(s, left) })
}

func (c codec) name(n *api.Name) {
	c.string(&n.Name)
	c.val(&n.Value)
}

func (c codec) names(l *[]api.Name) { list(c, l, api.MaxNames, c.name) }

func (c codec) subject(s *api.Subject) {
	count(c, &s.Side)
	c.code(&s.Code, maxDeep)
	c.names(&s.Names)
	list(c, &s.Seen, anyLength, func(r *api.Ref) { count(c, r) })
}

func (c codec) world(x *api.World) {
	list(c, &x.Parents, anyLength, func(s *api.Side) { count(c, s) })
	list(c, &x.Cuts, anyLength, func(n *int) { count(c, n) })
	count(c, &x.Last)
	list(c, &x.Made, anyLength, func(n *int) { count(c, n) })
	list(c, &x.Things, api.MaxLast, c.thing)
}
