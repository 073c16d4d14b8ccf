package clerk

import (
	"slices"

	"postern/able"
	"postern/act"
	"postern/api"
	"postern/code"
	"postern/value"
	"postern/world"
)

// work is an act with all that is done within it.
type work struct {
	w      *world.World
	atWork []api.Ref
	deeds  []api.Deed
	cost   api.Cost
}

// do does an act for a clerk, or for whoever called.
func (t *work) do(who api.Ref, from api.Side, r api.Ref, by api.Able, v api.Value) (api.Value, error) {
	base := t.w.Base(r)
	d := api.Deed{Kind: api.Acted, By: who, On: r, Base: base, Able: by}
	if t.w.Kind(base) == api.Clerk {
		return t.ask(d, from, v)
	}
	answer, err := act.Do(t.w, from, r, by, v, nil)
	if err != nil {
		return api.Value{}, err
	}
	d.With, d.Answer = own(v), own(answer)
	if t.draws(base, by) {
		d.Made = []api.Ref{answer.R}
	}
	t.deeds = append(t.deeds, d)
	return answer, nil
}

// draws says whether the answer of that act is something new.
func (t *work) draws(base api.Ref, by api.Able) bool {
	switch t.w.Kind(base) {
	case api.Sealer, api.Mint:
		return by == api.Ask
	case api.Purse:
		return by == api.Take
	}
	return false
}

// ask does an act on a clerk.
func (t *work) ask(d api.Deed, from api.Side, v api.Value) (api.Value, error) {
	answer, err := act.Do(t.w, from, d.On, d.Able, v, func(_ *world.World, clerk api.Ref, v api.Value) (api.Value, error) {
		asked := d
		asked.Kind, asked.With = api.Asked, own(v)
		t.deeds = append(t.deeds, asked)
		return t.answer(clerk, v)
	})
	if err != nil {
		return api.Value{}, err
	}
	d.Kind, d.Answer = api.Answered, own(answer)
	t.deeds = append(t.deeds, d)
	return answer, nil
}

// answer answers for a clerk by its code.
func (t *work) answer(clerk api.Ref, v api.Value) (api.Value, error) {
	switch {
	case slices.Contains(t.atWork, clerk):
		return api.Value{}, failed(api.ErrBusy)
	case len(t.atWork) == api.MaxDeep:
		return api.Value{}, failed(api.ErrDeep)
	}
	t.atWork = append(t.atWork, clerk)
	t.cost.Deep = max(t.cost.Deep, len(t.atWork))
	defer func() { t.atWork = t.atWork[:len(t.atWork)-1] }()
	x, _ := t.w.What(clerk)
	names, e := begins(x, v)
	if e != api.OK {
		return api.Value{}, failed(e)
	}
	t.cost.Clerks++
	d := &desk{work: t, clerk: clerk, home: x.Home, names: names, left: x.Code}
	if err := d.run(); err != nil {
		return api.Value{}, err
	}
	x.Names = d.names
	t.w.Lay(clerk, x)
	return d.reply, nil
}

// begins tells the names with which a clerk begins that is asked with v.
func begins(x api.What, v api.Value) ([]api.Name, api.Errno) {
	if !code.MayNames(x.Names) {
		return nil, api.ErrArg
	}
	if _, e := code.Check(x.Code); e != api.OK {
		return nil, e
	}
	return code.Set(x.Names, "it", v)
}

// desk is a clerk at work.
type desk struct {
	*work
	clerk api.Ref
	home  api.Side
	names []api.Name
	left  []api.Stmt
	reply api.Value
}

// ended is what a statement's fault comes up as.
type ended struct{ err error }

func (d *desk) end(e api.Errno) { panic(ended{failed(e)}) }

// run does statement by statement, until there is none left, or one fails.
func (d *desk) run() (err error) {
	defer func() {
		met := recover()
		if met == nil {
			return
		}
		if fault, ok := met.(ended); ok {
			err = fault.err
			return
		}
		panic(met)
	}()
	ops := ops()
	for len(d.left) > 0 {
		s := d.left[0]
		d.left = d.left[1:]
		if d.cost.Steps == api.MaxSteps {
			d.end(api.ErrSteps)
		}
		d.cost.Steps++
		d.room(s)
		ops[s.Op](d, s, d.works(s.A), d.works(s.B))
	}
	return nil
}

// ops tells what each statement does with what its expressions work out to.
func ops() map[api.Op]func(d *desk, s api.Stmt, a, b api.Value) {
	return map[api.Op]func(d *desk, s api.Stmt, a, b api.Value){
		api.Let:   (*desk).let,
		api.Act:   (*desk).act,
		api.Make:  (*desk).make,
		api.Part:  (*desk).part,
		api.Same:  (*desk).same,
		api.Can:   (*desk).can,
		api.Reply: (*desk).replies,
		api.Fail:  (*desk).fail,
		api.Await: (*desk).await,
	}
}

// room ends the clerk, if there is no room for the statement's names.
func (d *desk) room(s api.Stmt) {
	more := 0
	for _, name := range [...]string{s.Name, s.Second} {
		if _, ok := code.Get(d.names, name); name != "" && !ok {
			more++
		}
	}
	if len(d.names)+more > api.MaxNames {
		d.end(api.ErrLimit)
	}
}

func (d *desk) works(e api.Expr) api.Value {
	v, err := code.Work(d.names, e)
	if err != api.OK {
		d.end(err)
	}
	return v
}

// set lets a name, for which there is room, stand for v.
func (d *desk) set(name string, v api.Value) {
	d.names, _ = code.Set(d.names, name, v)
}

func (d *desk) let(s api.Stmt, a, _ api.Value) { d.set(s.Name, a) }

func (d *desk) act(s api.Stmt, a, b api.Value) { d.acts(s.Name, s.Able, a, b) }

func (d *desk) await(s api.Stmt, a, _ api.Value) { d.acts(s.Name, api.Get, a, api.Value{}) }

func (d *desk) acts(name string, by api.Able, a, b api.Value) {
	if a.Kind != api.Reference {
		d.end(api.ErrArg)
	}
	answer, err := d.do(d.clerk, d.home, a.R, by, b)
	if err != nil {
		panic(ended{err})
	}
	d.set(name, answer)
}

func (d *desk) make(s api.Stmt, _, _ api.Value) {
	deed, e := Make(d.w, d.home, s, d.names)
	if e != api.OK {
		d.end(e)
	}
	deed.By = d.clerk
	d.deeds = append(d.deeds, deed)
	for i, name := range [...]string{s.Name, s.Second} {
		if name != "" {
			d.set(name, api.Value{Kind: api.Reference, R: deed.Made[i]})
		}
	}
}

func (d *desk) part(s api.Stmt, a, b api.Value) {
	if a.Kind != api.List || b.Kind != api.Number || b.N < 0 || b.N >= int64(len(a.L)) {
		d.end(api.ErrArg)
	}
	d.set(s.Name, a.L[b.N])
}

func (d *desk) same(s api.Stmt, a, b api.Value) { d.branch(s, value.Same(a, b)) }

func (d *desk) can(s api.Stmt, a, _ api.Value) {
	d.branch(s, a.Kind == api.Reference && able.Has(d.w.Able(a.R), s.Able))
}

func (d *desk) branch(s api.Stmt, then bool) {
	block := s.Else
	if then {
		block = s.Then
	}
	d.left = slices.Concat(block, d.left)
}

func (d *desk) replies(_ api.Stmt, a, _ api.Value) { d.reply, d.left = a, nil }

func (d *desk) fail(api.Stmt, api.Value, api.Value) { d.end(api.ErrFail) }
