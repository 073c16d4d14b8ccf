package scene

import (
	"iter"
	"slices"
	"strings"

	"postern/api"
	"postern/word"
)

// passed is what a line begins with that says nothing.
const passed = "--"

// stuck is what a reader gives up with: an error and its place.
type stuck struct {
	line, at int
	e        api.Errno
}

// sentence is tokens, and of each the line in which it stands; and the last line, and how long that is.
type sentence struct {
	tokens []api.Token
	lines  []int
	last   int
	long   int
}

// Read tells the scene whose text that is.
func Read(text string) (s api.Scene, line, at int, e api.Errno) {
	if len(text) > api.MaxScene {
		return api.Scene{}, 0, 0, api.ErrLong
	}
	defer func() {
		met := recover()
		if met == nil {
			return
		}
		if k, ok := met.(stuck); ok {
			s, line, at, e = api.Scene{}, k.line, k.at, k.e
			return
		}
		panic(met)
	}()
	b := &builder{made: make(map[api.Side]int)}
	for x := range sentences(text) {
		b.read(x)
	}
	s, ok := b.scene()
	if !ok || Check(s) != api.OK {
		return api.Scene{}, 0, 0, api.ErrArg
	}
	return s, 0, 0, api.OK
}

// sentences goes over the sentences of a text.
func sentences(text string) iter.Seq[sentence] {
	return func(yield func(sentence) bool) {
		var x sentence
		open, n := 0, 0
		for line := range strings.SplitSeq(text, "\n") {
			n++
			if strings.HasPrefix(line, passed) {
				continue
			}
			l, at, e := word.Cut(line)
			if e != api.OK {
				panic(stuck{n, at, e})
			}
			if len(l) == 0 {
				continue
			}
			x.tokens = append(x.tokens, l...)
			x.lines = append(x.lines, slices.Repeat([]int{n}, len(l))...)
			x.last, x.long = n, len(line)
			open += signs(l, "{") - signs(l, "}")
			if open > 0 {
				continue
			}
			if !yield(x) {
				return
			}
			x, open = sentence{}, 0
		}
		if len(x.tokens) > 0 {
			yield(x)
		}
	}
}

// signs counts a sign.
func signs(l []api.Token, s string) int {
	n := 0
	for _, t := range l {
		if isSign(t, s) {
			n++
		}
	}
	return n
}

func isSign(t api.Token, s string) bool { return t.Kind == api.TSign && t.S == s }

// builder puts together what sentences say.
type builder struct {
	parents  []api.Side
	cuts     []int
	things   []api.Entry
	subjects []api.Subject
	cues     []api.Cue
	last     []api.Ref
	made     map[api.Side]int
	wrong    bool // something was said that may never be
}

// scene tells what was said. Sides, things, subjects and cues stand in the order of their sentences; cuts and things by their numbers.
func (b *builder) scene() (api.Scene, bool) {
	slices.Sort(b.cuts)
	slices.SortStableFunc(b.things, func(x, y api.Entry) int {
		if x.Ref < y.Ref {
			return -1
		}
		return min(1, int(x.Ref-y.Ref))
	})
	w := api.World{Parents: b.parents, Cuts: b.cuts, Things: b.things, Last: greatest(b.things), Made: counted(b.things, len(b.parents)+1)}
	if len(b.last) > 0 {
		w.Last = b.last[0]
	}
	for side, n := range b.made {
		if side < 0 || int(side) >= len(w.Made) {
			return api.Scene{}, false
		}
		w.Made[side] = n
	}
	return api.Scene{World: w, Subjects: b.subjects, Cues: b.cues}, !b.wrong && len(b.last) <= 1
}
