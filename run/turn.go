package run

import (
	"errors"

	"postern/able"
	"postern/api"
	"postern/clerk"
	"postern/code"
	"postern/value"
	"postern/world"
)

// turn is a subject in its turn.
type turn struct {
	api.Subject
	w     *world.World
	line  api.Line
	deeds []api.Deed
}

// does does a statement with what its expressions work out to; it answers the fault's number.
type does func(t *turn, s api.Stmt, a, b api.Value) api.Errno

func ops() map[api.Op]does {
	return map[api.Op]does{
		api.Let:   (*turn).let,
		api.Act:   (*turn).act,
		api.Make:  (*turn).make,
		api.Part:  (*turn).part,
		api.Same:  (*turn).same,
		api.Can:   (*turn).can,
		api.Reply: (*turn).reply,
		api.Fail:  (*turn).fail,
		api.Await: (*turn).await,
	}
}

// next does the next statement, and lays what it tells.
func (t *turn) next() {
	s := t.Code[0]
	t.Code = t.Code[1:]
	t.line = api.Line{Op: s.Op, Name: s.Name, Second: s.Second}
	if e := t.do(s); e != api.OK {
		t.line.Code = e
		// Where there is no room for a name it stands for nothing anyway.
		t.set(s.Name, api.Value{})
		t.set(s.Second, api.Value{})
	}
	t.Seen = see(t.Seen, told(t.line)...)
}

// told tells the references of what a line tells, in their order.
func told(line api.Line) []api.Ref {
	return append(value.Refs(line.Value), value.Refs(line.Other)...)
}

func (t *turn) do(s api.Stmt) api.Errno {
	if !t.room(s.Name, s.Second) {
		return api.ErrLimit
	}
	a, e := code.Work(t.Names, s.A)
	if e != api.OK {
		return e
	}
	b, e := code.Work(t.Names, s.B)
	if e != api.OK {
		return e
	}
	return ops()[s.Op](t, s, a, b)
}

// room says whether there is room for these names.
func (t *turn) room(names ...string) bool {
	more := 0
	for _, name := range names {
		if _, ok := code.Get(t.Names, name); name != "" && !ok {
			more++
		}
	}
	return len(t.Names)+more <= api.MaxNames
}

// set lets a name stand for v, if there is room.
func (t *turn) set(name string, v api.Value) {
	if set, e := code.Set(t.Names, name, v); e == api.OK {
		t.Names = set
	}
}

// tell lets the line's name stand for v, and tells it.
func (t *turn) tell(v api.Value) api.Errno {
	t.set(t.line.Name, v)
	t.line.Value = v
	return api.OK
}

func (t *turn) let(_ api.Stmt, a, _ api.Value) api.Errno { return t.tell(a) }

func (t *turn) act(s api.Stmt, a, b api.Value) api.Errno { return t.acts(s.Able, a, b) }

func (t *turn) await(_ api.Stmt, a, _ api.Value) api.Errno { return t.acts(api.Get, a, api.Value{}) }

func (t *turn) acts(by api.Able, a, b api.Value) api.Errno {
	if a.Kind != api.Reference {
		return api.ErrArg
	}
	answer, deeds, err := clerk.Do(t.w, t.Side, a.R, by, b)
	if err != nil {
		return codeOf(err)
	}
	t.deeds = deeds
	return t.tell(answer)
}

// codeOf tells the Code of an act's fault.
func codeOf(err error) api.Errno {
	var f api.Fault
	if errors.As(err, &f) {
		return f.Code()
	}
	return api.ErrState
}

func (t *turn) make(s api.Stmt, _, _ api.Value) api.Errno {
	deed, e := clerk.Make(t.w, t.Side, s, t.Names)
	if e != api.OK {
		return e
	}
	t.deeds = []api.Deed{deed}
	t.tell(api.Value{Kind: api.Reference, R: deed.Made[0]})
	if s.Second != "" {
		t.line.Other = api.Value{Kind: api.Reference, R: deed.Made[1]}
		t.set(s.Second, t.line.Other)
	}
	return api.OK
}

func (t *turn) part(_ api.Stmt, a, b api.Value) api.Errno {
	if a.Kind != api.List || b.Kind != api.Number || b.N < 0 || b.N >= int64(len(a.L)) {
		return api.ErrArg
	}
	return t.tell(a.L[b.N])
}

func (t *turn) same(s api.Stmt, a, b api.Value) api.Errno { return t.branch(s, value.Same(a, b)) }

func (t *turn) can(s api.Stmt, a, _ api.Value) api.Errno {
	return t.branch(s, a.Kind == api.Reference && able.Has(t.w.Able(a.R), s.Able))
}

func (t *turn) branch(s api.Stmt, then bool) api.Errno {
	block := s.Else
	if then {
		block = s.Then
	}
	t.line.Then = then
	t.Code = append(block[:len(block):len(block)], t.Code...)
	return api.OK
}

func (t *turn) reply(_ api.Stmt, a, _ api.Value) api.Errno {
	t.line.Value = a
	return api.OK
}

func (t *turn) fail(api.Stmt, api.Value, api.Value) api.Errno { return api.ErrFail }
