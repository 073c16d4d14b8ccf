package value

import "postern/api"

// topBit turns numbers into wide words of the same order.
const topBit = 1 << 63

// Bytes tells the bytes of v.
func Bytes(v api.Value) (string, api.Errno) {
	if !May(v) {
		return "", api.ErrArg
	}
	for _, r := range Refs(v) {
		if r > api.MaxRef {
			return "", api.ErrArg
		}
	}
	return string(lay(nil, v)), api.OK
}

// lay puts the bytes of v, which has some, behind b.
func lay(b []byte, v api.Value) []byte {
	b = append(b, byte(v.Kind))
	switch v.Kind {
	case api.Number:
		return layWide(b, uint64(v.N)^topBit, 8)
	case api.Text:
		b = layWide(b, uint64(len(v.S)), 2)
		return append(b, v.S...)
	case api.List:
		b = layWide(b, uint64(len(v.L)), 2)
		for _, part := range v.L {
			b = lay(b, part)
		}
	case api.Reference:
		return layWide(b, uint64(v.R), 4)
	}
	return b
}

// layWide puts the lowest n bytes of x behind b, the highest one first.
func layWide(b []byte, x uint64, n int) []byte {
	for n--; n >= 0; n-- {
		b = append(b, byte(x>>(8*n)))
	}
	return b
}

// Front tells the value with whose bytes s begins, and what stands behind.
func Front(s string) (v api.Value, rest string, e api.Errno) {
	left := s
	take := func(n int) (string, bool) {
		if n > len(left) {
			return "", false
		}
		taken := left[:n]
		left = left[n:]
		return taken, true
	}
	v, _, ok := read(take, api.MaxParts, api.MaxNest)
	if !ok {
		return api.Value{}, "", api.ErrBytes
	}
	return v, left, api.OK
}

// Read tells the value whose bytes s is.
func Read(s string) (api.Value, api.Errno) {
	if len(s) > api.MaxBytes {
		return api.Value{}, api.ErrLong
	}
	v, rest, e := Front(s)
	if e != api.OK || rest != "" {
		return api.Value{}, api.ErrBytes
	}
	return v, api.OK
}

// read takes a value of no more than left parts, nested no deeper than nest, and tells how many parts it has.
func read(take func(n int) (string, bool), left, nest int) (v api.Value, parts int, ok bool) {
	kind, ok := takeWide(take, 1)
	if !ok || left < 1 {
		return api.Value{}, 0, false
	}
	v.Kind = api.ValueKind(kind)
	switch v.Kind {
	case api.Nothing:
	case api.Number:
		var x uint64
		x, ok = takeWide(take, 8)
		v.N = int64(x ^ topBit)
	case api.Text:
		var n uint64
		if n, ok = takeWide(take, 2); ok {
			v.S, ok = take(int(n))
		}
	case api.List:
		return readList(take, left, nest)
	case api.Reference:
		var x uint64
		x, ok = takeWide(take, 4)
		v.R = api.Ref(x)
	default:
		ok = false
	}
	if !ok || !proper(v) {
		return api.Value{}, 0, false
	}
	return v, 1, true
}

// readList takes what stands behind the kind of a list.
func readList(take func(n int) (string, bool), left, nest int) (v api.Value, parts int, ok bool) {
	n, ok := takeWide(take, 2)
	if !ok || nest < 1 || int(n) > left-1 {
		return api.Value{}, 0, false
	}
	v.Kind, parts = api.List, 1
	for range n {
		part, more, ok := read(take, left-parts, nest-1)
		if !ok {
			return api.Value{}, 0, false
		}
		v.L = append(v.L, part)
		parts += more
	}
	return v, parts, true
}

// takeWide takes n bytes as a number, the highest one first.
func takeWide(take func(n int) (string, bool), n int) (uint64, bool) {
	s, ok := take(n)
	x := uint64(0)
	for i := range len(s) {
		x = x<<8 | uint64(s[i])
	}
	return x, ok
}
