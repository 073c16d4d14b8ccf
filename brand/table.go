package brand

import (
	"cmp"
	"iter"
	"maps"
	"slices"

	"postern/api"
)

// Table has values under marks.
type Table struct {
	under map[api.Mark]entry
	came  int
}

// entry is what stands under a mark, and as which one that mark came.
type entry struct {
	key   api.Mark
	value api.Value
	came  int
}

// New makes an empty table.
func New() *Table { return &Table{under: make(map[api.Mark]entry)} }

func (t *Table) made() bool { return t != nil && t.under != nil }

// Put lays v under the mark of key, and tells what stood there.
func (t *Table) Put(key, v api.Value) (old api.Value, had bool, e api.Errno) {
	if !t.made() {
		return api.Value{}, false, api.ErrNil
	}
	m, e := Of(key)
	_, f := Of(v)
	if e != api.OK || f != api.OK {
		return api.Value{}, false, api.ErrArg
	}
	if !isKey(m) {
		return api.Value{}, false, api.ErrKey
	}
	stood, had := t.under[m]
	if !had {
		t.came++
		stood.came = t.came
	}
	t.under[m] = entry{key: m, value: own(v), came: stood.came}
	return own(stood.value), had, api.OK
}

// Get tells what stands under the mark of key.
func (t *Table) Get(key api.Value) (v api.Value, had bool, e api.Errno) {
	stands, had, e := t.find(key)
	return own(stands.value), had, e
}

// Drop takes away what stands under the mark of key.
func (t *Table) Drop(key api.Value) (had bool, e api.Errno) {
	stood, had, e := t.find(key)
	if had {
		delete(t.under, stood.key)
	}
	return had, e
}

func (t *Table) find(key api.Value) (entry, bool, api.Errno) {
	if !t.made() {
		return entry{}, false, api.ErrNil
	}
	m, e := Of(key)
	if e != api.OK {
		return entry{}, false, e
	}
	if !isKey(m) {
		return entry{}, false, api.ErrKey
	}
	stands, had := t.under[m]
	return stands, had, api.OK
}

// Len tells how many marks have something under them.
func (t *Table) Len() int {
	if !t.made() {
		return 0
	}
	return len(t.under)
}

// All goes over the marks' values and what stands under them, in the order in which the marks came.
func (t *Table) All() iter.Seq2[api.Value, api.Value] {
	return func(yield func(api.Value, api.Value) bool) {
		if !t.made() {
			return
		}
		entries := slices.SortedFunc(maps.Values(t.under), func(a, b entry) int { return cmp.Compare(a.came, b.came) })
		for _, x := range entries {
			if !yield(x.key.Told(), own(x.value)) {
				return
			}
		}
	}
}

// Copy makes another table with the same.
func (t *Table) Copy() *Table {
	if !t.made() {
		return nil
	}
	return &Table{under: maps.Clone(t.under), came: t.came}
}
