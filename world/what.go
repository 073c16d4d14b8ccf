package world

import (
	"slices"

	"postern/able"
	"postern/api"
	"postern/value"
)

// abilities tells those of a thing that stands before no other one.
func abilities(k api.Kind) api.Able {
	switch k {
	case api.Cell:
		return api.Get | api.Put
	case api.Log, api.Tally:
		return api.Get | api.Give
	case api.Queue:
		return api.Give | api.Take
	case api.Sealer, api.Opener, api.Mint, api.Clerk:
		return api.Ask
	case api.Purse:
		return api.Get | api.Take | api.Give
	case api.Promise:
		return api.Get
	case api.Keeper:
		return api.Give
	case api.Switch:
		return api.Get | api.Cut
	}
	return api.None
}

// fields are those of a What, one bit each.
type fields uint16

const (
	hasHome fields = 1 << iota
	hasValue
	hasValues
	hasN
	hasLost
	hasOf
	hasBy
	hasSet
	hasFull
	hasCode
	hasNames
)

// asked tells the fields that a kind has.
func asked(k api.Kind) (f fields, ok bool) {
	switch k {
	case api.Cell:
		return hasHome | hasValue, true
	case api.Log, api.Queue:
		return hasHome | hasValues, true
	case api.Tally:
		return hasHome | hasN, true
	case api.Sealer:
		return hasHome, true
	case api.Opener, api.Keeper:
		return hasHome | hasOf, true
	case api.Box:
		return hasHome | hasOf | hasValue, true
	case api.Mint:
		return hasHome | hasN | hasLost, true
	case api.Purse:
		return hasHome | hasOf | hasN, true
	case api.Promise:
		return hasHome | hasFull | hasValue, true
	case api.Clerk:
		return hasHome | hasCode | hasNames, true
	case api.Switch:
		return hasHome | hasFull | hasOf, true
	case api.Gate, api.Tap:
		return hasHome | hasOf | hasBy, true
	case api.Facet:
		return hasOf | hasSet, true
	}
	return 0, false
}

// used tells the fields of x that are not zero.
func used(x *api.What) fields {
	var f fields
	for _, field := range [...]struct {
		bit fields
		is  bool
	}{
		{hasHome, x.Home != 0}, {hasValue, !isZero(x.Value)}, {hasValues, len(x.Values) > 0},
		{hasN, x.N != 0}, {hasLost, x.Lost != 0}, {hasOf, x.Of != 0}, {hasBy, x.By != 0},
		{hasSet, x.Set != 0}, {hasFull, x.Full}, {hasCode, len(x.Code) > 0}, {hasNames, len(x.Names) > 0},
	} {
		if field.is {
			f |= field.bit
		}
	}
	return f
}

func isZero(v api.Value) bool { return v.Kind == api.Nothing && value.May(v) }

// fits says whether x is a What that the table has, in a world of so many sides, but for its references.
func fits(x *api.What, sides int) bool {
	f, ok := asked(x.Kind)
	if !ok || used(x)&^f != 0 || x.Home < 0 || int(x.Home) >= sides {
		return false
	}
	if x.N < 0 || x.N > api.MaxMoney || x.Lost < 0 || x.Lost > x.N {
		return false
	}
	if x.Kind == api.Promise && !x.Full && x.Value.Kind != api.Nothing {
		return false
	}
	_, e := value.Of(x.Values...)
	return e == api.OK && value.May(x.Value) && able.May(x.Set) && codeFits(x.Code) && namesFit(x.Names)
}

func namesFit(names []api.Name) bool {
	if len(names) > api.MaxNames {
		return false
	}
	return !slices.ContainsFunc(names, func(n api.Name) bool { return !value.May(n.Value) })
}

func codeFits(code []api.Stmt) bool {
	_, ok := statements(code, api.MaxCode)
	return ok
}

// statements tells how many statements stand in code, if there are no more than left, and none is too much.
func statements(code []api.Stmt, left int) (n int, ok bool) {
	for _, s := range code {
		n++
		if n > left || len(s.With) > api.MaxNames || !exprFits(s.A) || !exprFits(s.B) {
			return 0, false
		}
		for _, block := range [...][]api.Stmt{s.Then, s.Else, s.Code} {
			more, ok := statements(block, left-n)
			if !ok {
				return 0, false
			}
			n += more
		}
	}
	return n, true
}

func exprFits(e api.Expr) bool {
	_, ok := exprParts(e, api.MaxParts, api.MaxNest)
	return ok
}

// exprParts tells how many parts e has, if there are no more than left, and it is nested no deeper than nest.
func exprParts(e api.Expr, left, nest int) (n int, ok bool) {
	if left < 1 || nest < 1 && (e.Kind == api.EList || len(e.L) > 0) {
		return 0, false
	}
	n = 1
	for _, part := range e.L {
		more, ok := exprParts(part, left-n, nest-1)
		if !ok {
			return 0, false
		}
		n += more
	}
	return n, true
}

// refsOf tells the references in what x has.
func refsOf(x *api.What) []api.Ref {
	refs := value.Refs(x.Value)
	for _, v := range x.Values {
		refs = append(refs, value.Refs(v)...)
	}
	for _, n := range x.Names {
		refs = append(refs, value.Refs(n.Value)...)
	}
	return refs
}

// own copies a What that fits.
func own(x api.What) api.What {
	x.Value = ownValue(x.Value)
	x.Values = mapped(x.Values, ownValue)
	x.Code = mapped(x.Code, ownStmt)
	x.Names = mapped(x.Names, func(n api.Name) api.Name { return api.Name{Name: n.Name, Value: ownValue(n.Value)} })
	return x
}

// mapped makes a list of what is made of each; of an empty one none.
func mapped[T any](l []T, of func(T) T) []T {
	if len(l) == 0 {
		return nil
	}
	out := make([]T, len(l))
	for i, x := range l {
		out[i] = of(x)
	}
	return out
}

func ownValue(v api.Value) api.Value {
	mine, _ := value.Own(v)
	return mine
}

func ownStmt(s api.Stmt) api.Stmt {
	s.A, s.B = ownExpr(s.A), ownExpr(s.B)
	s.Then, s.Else, s.Code = mapped(s.Then, ownStmt), mapped(s.Else, ownStmt), mapped(s.Code, ownStmt)
	s.With = slices.Clone(s.With)
	return s
}

func ownExpr(e api.Expr) api.Expr {
	e.L = mapped(e.L, ownExpr)
	return e
}

// sameWhat says whether both, which fit, are the same.
func sameWhat(x, y *api.What) bool {
	return x.Kind == y.Kind && x.Home == y.Home && x.N == y.N && x.Lost == y.Lost && x.Of == y.Of && x.By == y.By &&
		x.Set == y.Set && x.Full == y.Full && value.Same(x.Value, y.Value) && slices.EqualFunc(x.Values, y.Values, value.Same) &&
		slices.EqualFunc(x.Code, y.Code, sameStmt) && slices.EqualFunc(x.Names, y.Names, sameName)
}

func sameName(m, n api.Name) bool { return m.Name == n.Name && value.Same(m.Value, n.Value) }

func sameStmt(s, t api.Stmt) bool {
	return s.Op == t.Op && s.Name == t.Name && s.Second == t.Second && s.Able == t.Able && s.What == t.What &&
		sameExpr(s.A, t.A) && sameExpr(s.B, t.B) && slices.Equal(s.With, t.With) && slices.EqualFunc(s.Then, t.Then, sameStmt) &&
		slices.EqualFunc(s.Else, t.Else, sameStmt) && slices.EqualFunc(s.Code, t.Code, sameStmt)
}

func sameExpr(d, e api.Expr) bool {
	return d.Kind == e.Kind && d.N == e.N && d.S == e.S && slices.EqualFunc(d.L, e.L, sameExpr)
}
