package never

import (
	"postern/able"
	"postern/api"
	"postern/bound"
)

// head is what a certificate begins with.
const head = "NEV\x01"

// A holder and a mark are told apart by a byte ahead of them.
const (
	isHolder = iota
	isPlace
)

const (
	isSubject = iota
	isClerk
)

// row is a holder, or a place, and a mark of which there is a fact.
type row struct {
	by       api.Holder
	in, what api.Spot
}

// rowsOf tells the rows of facts, in their order, and of each the set of abilities.
func rowsOf(f *bound.Facts) ([]row, map[row]api.Able) {
	var list []row
	sets := make(map[row]api.Able)
	for x := range f.Each() {
		r := row{x.By, x.In, x.What}
		set, met := sets[r]
		if !met {
			list = append(list, r)
		}
		sets[r] = set | x.Can
	}
	return list, sets
}

// lay tells the bytes of a certificate.
func lay(q api.Question, f *bound.Facts) []byte {
	b := []byte(head)
	put := func(x, bytes int) {
		for bytes--; bytes >= 0; bytes-- {
			b = append(b, byte(x>>(8*bytes)))
		}
	}
	holder := func(h api.Holder) {
		if h.Clerk != 0 {
			put(isClerk, 1)
			put(int(h.Clerk), 4)
			return
		}
		put(isSubject, 1)
		put(h.Subject, 4)
	}
	mark := func(s api.Spot) {
		put(int(s.Kind), 1)
		put(int(s.Ref), 4)
		holder(s.Of)
	}
	put(q.By, 2)
	put(int(q.Able), 1)
	put(int(q.Thing), 4)
	list, sets := rowsOf(f)
	put(len(list), 4)
	for _, r := range list {
		if r.in == (api.Spot{}) {
			put(isHolder, 1)
			holder(r.by)
		} else {
			put(isPlace, 1)
			mark(r.in)
		}
		mark(r.what)
		put(int(sets[r]), 1)
	}
	return b
}

// noCert is what a reader gives up with.
type noCert struct{}

// read lays the facts of a certificate in f, which has none, and tells its question.
func read(s string, f *bound.Facts) (q api.Question, ok bool) {
	defer func() {
		met := recover()
		if met == nil {
			return
		}
		if _, is := met.(noCert); is {
			q, ok = api.Question{}, false
			return
		}
		panic(met)
	}()
	r := newReader(s)
	for i := range len(head) {
		r.want(r.take(1) == int(head[i]))
	}
	q = api.Question{By: r.take(2), Able: api.Able(r.take(1)), Thing: api.Ref(r.take(4))}
	for range r.take(4) {
		r.row(f)
	}
	return q, true
}

// reader takes from the front of bytes: take tells a number of so many.
type reader struct{ take func(bytes int) int }

func newReader(s string) reader {
	at := 0
	return reader{func(bytes int) int {
		if at+bytes > len(s) {
			panic(noCert{})
		}
		x := 0
		for range bytes {
			x = x<<8 | int(s[at])
			at++
		}
		return x
	}}
}

func (r reader) want(ok bool) {
	if !ok {
		panic(noCert{})
	}
}

func (r reader) holder() api.Holder {
	kind, n := r.take(1), r.take(4)
	r.want(kind <= isClerk)
	if kind == isClerk {
		return api.Holder{Clerk: api.Ref(n)}
	}
	return api.Holder{Subject: n}
}

func (r reader) mark() api.Spot {
	return api.Spot{Kind: api.SpotKind(r.take(1)), Ref: api.Ref(r.take(4)), Of: r.holder()}
}

// row lays the facts of a row.
func (r reader) row(f *bound.Facts) {
	var x api.Fact
	kind := r.take(1)
	r.want(kind <= isPlace)
	if kind == isHolder {
		x.By = r.holder()
	} else {
		x.In = r.mark()
		r.want(x.In != api.Spot{})
	}
	x.What = r.mark()
	set := api.Able(r.take(1))
	r.want(able.May(set) && f.Add(x) == api.OK)
	for x.Can = range able.Each(set) {
		f.Add(x)
	}
}
