package fault

import (
	"math"
	"strconv"

	"postern/api"
)

// Text tells the text of t.
func Text(t api.Tree) (string, api.Errno) {
	if !May(t) {
		return "", api.ErrArg
	}
	return string(lay(nil, t)), api.OK
}

// lay puts the text of t behind b.
func lay(b []byte, t api.Tree) []byte {
	b = strconv.AppendInt(b, int64(t.Code), 10)
	for i, under := range t.Under {
		if i == 0 {
			b = append(b, '(')
		} else {
			b = append(b, ' ')
		}
		b = lay(b, under)
	}
	if len(t.Under) > 0 {
		b = append(b, ')')
	}
	return b
}

// Read tells the tree whose text s is.
func Read(s string) (api.Tree, api.Errno) {
	if len(s) > api.MaxTreeText {
		return api.Tree{}, api.ErrLong
	}
	t, rest, ok := read(s, api.MaxLow)
	if !ok || rest != "" || !May(t) {
		return api.Tree{}, api.ErrTree
	}
	return t, api.OK
}

// read takes a tree from the front of s that is no deeper than low.
func read(s string, low int) (t api.Tree, rest string, ok bool) {
	t.Code, rest, ok = readCode(s)
	if !ok || low < 1 {
		return api.Tree{}, "", false
	}
	for end := byte('('); starts(rest, end); end = ' ' {
		under, behind, ok := read(rest[1:], low-1)
		if !ok {
			return api.Tree{}, "", false
		}
		t.Under, rest = append(t.Under, under), behind
		if starts(rest, ')') {
			return t, rest[1:], true
		}
	}
	// A bracket that was opened is not closed here.
	return t, rest, len(t.Under) == 0
}

func starts(s string, c byte) bool { return s != "" && s[0] == c }

// readCode takes the digits of a Code from the front of s.
func readCode(s string) (code api.Errno, rest string, ok bool) {
	n := 0
	for n < len(s) && s[n] >= '0' && s[n] <= '9' {
		digit := api.Errno(s[n] - '0')
		if n == 0 && digit == 0 || code > (math.MaxInt-digit)/10 {
			return 0, "", false
		}
		code = 10*code + digit
		n++
	}
	return code, s[n:], n > 0
}
