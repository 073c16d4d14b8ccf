package journal

import (
	"postern/api"
	"postern/pick"
	"postern/snap"
)

// magic is what a head begins with; behind it stands how many bytes the Play has.
const magic = "JRN\x01"

const (
	countBytes = 4
	sumBytes   = 8
)

// Of the sum: what that of a head begins with, and what it is taken times with each byte.
const (
	sumBegin = 14695981039346656037
	sumTimes = 1099511628211
)

// sum tells the sum of bytes behind an earlier sum.
func sum(earlier uint64, s string) uint64 {
	for i := range len(s) {
		earlier ^= uint64(s[i])
		earlier *= sumTimes
	}
	return earlier
}

// putWide lays a number in all of b, the highest byte first.
func putWide(b []byte, x uint64) {
	for i := len(b) - 1; i >= 0; i-- {
		b[i] = byte(x)
		x >>= 8
	}
}

// takeWide tells the number in all of b.
func takeWide(b []byte) uint64 {
	x := uint64(0)
	for _, c := range b {
		x <<= 8
		x |= uint64(c)
	}
	return x
}

// layHead tells the head of a Play's bytes, and its sum.
func layHead(body string) ([]byte, uint64) {
	head := append([]byte(magic), make([]byte, countBytes)...)
	putWide(head[len(magic):], uint64(len(body)))
	head = append(head, body...)
	mark := sum(sumBegin, string(head))
	head = append(head, make([]byte, sumBytes)...)
	putWide(head[len(head)-sumBytes:], mark)
	return head, mark
}

// reader takes bytes from the front, and remembers how many it took.
func reader(s string) (take func(n int) (string, bool), took func() int) {
	at := 0
	take = func(n int) (string, bool) {
		if n > len(s)-at {
			return "", false
		}
		at += n
		return s[at-n : at], true
	}
	return take, func() int { return at }
}

// begin tells the Play with which a journal's bytes begin, and how many bytes its head has.
func begin(s string) (p *pick.Play, size int, e api.Errno) {
	if len(s) > api.MaxJournal {
		return nil, 0, api.ErrLong
	}
	take, took := reader(s)
	first, ok := take(len(magic))
	count, more := take(countBytes)
	if !ok || !more || first != magic {
		return nil, 0, api.ErrHead
	}
	body, ok := take(int(takeWide([]byte(count))))
	last, more := take(sumBytes)
	if !ok || !more || takeWide([]byte(last)) != sum(sumBegin, s[:took()-sumBytes]) {
		return nil, 0, api.ErrHead
	}
	p, e = snap.Read(body)
	if e != api.OK {
		return nil, 0, api.ErrHead
	}
	return p, took(), api.OK
}

// Head tells how many bytes the head of a journal has.
func Head(s string) (size int, e api.Errno) {
	_, size, e = begin(s)
	return size, e
}

// Open tells the journal of bytes, as far as its records are whole.
func Open(s string) (j *Journal, used int, e api.Errno) {
	p, size, e := begin(s)
	if e != api.OK {
		return nil, 0, e
	}
	j = &Journal{play: p, bytes: []byte(s[:size]), mark: takeWide([]byte(s[size-sumBytes : size]))}
	take, _ := reader(s[size:])
	for {
		next, ok := take(len(record{}))
		if !ok || !j.take(record([]byte(next))) {
			return j, len(j.bytes), api.OK
		}
	}
}

// take takes a record, if it is whole.
func (j *Journal) take(r record) bool {
	t := api.Turn{Who: int(takeWide(r[:edgeAt])), Edge: int(takeWide(r[edgeAt:sumAt]))}
	d, told, e := j.play.Turn(t)
	if e != api.OK || !told {
		return false
	}
	if j.recordOf(d) != r {
		// What was done for it is undone: the turns ahead of it are done once more.
		j.play, _ = j.behind(j.play.Len() - 1)
		return false
	}
	j.bytes = append(j.bytes, r[:]...)
	j.mark = takeWide(r[sumAt:])
	return true
}

// Turns tells the turns of the records that Open takes.
func Turns(s string) ([]api.Turn, api.Errno) {
	j, _, e := Open(s)
	if e != api.OK {
		return nil, e
	}
	var l []api.Turn
	for _, d := range j.play.Each() {
		l = append(l, d.Turn)
	}
	return l, api.OK
}
