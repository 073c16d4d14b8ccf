package code

import (
	"postern/able"
	"postern/api"
)

// fields are those of a statement besides its Op, one bit each.
type fields uint16

const (
	hasName fields = 1 << iota
	hasSecond
	hasAble
	hasWhat
	hasA
	hasB
	hasThen
	hasElse
	hasCode
	hasWith
)

// used tells the fields of s that are not zero.
func used(s api.Stmt) fields {
	var f fields
	for _, field := range [...]struct {
		bit fields
		is  bool
	}{
		{hasName, s.Name != ""}, {hasSecond, s.Second != ""}, {hasAble, s.Able != 0}, {hasWhat, s.What != 0},
		{hasA, !isNone(s.A)}, {hasB, !isNone(s.B)}, {hasThen, len(s.Then) > 0}, {hasElse, len(s.Else) > 0},
		{hasCode, len(s.Code) > 0}, {hasWith, len(s.With) > 0},
	} {
		if field.is {
			f |= field.bit
		}
	}
	return f
}

// isNone says whether e is the zero expression.
func isNone(e api.Expr) bool {
	return e.Kind == api.NoExpr && e.N == 0 && e.S == "" && len(e.L) == 0
}

// rule says whether s is as its Op asks; what it asks of more than one is not looked at.
type rule func(s api.Stmt) bool

// rules tells what each Op asks.
func rules() map[api.Op]rule {
	return map[api.Op]rule{
		api.Let:   asks(hasName, hasA),
		api.Act:   func(s api.Stmt) bool { return asks(hasName|hasAble|hasA, hasB)(s) && mayAct(s) },
		api.Make:  mayMake,
		api.Part:  asks(hasName|hasA|hasB, 0),
		api.Same:  asks(0, hasA|hasB|hasThen|hasElse),
		api.Can:   asks(hasA, hasAble|hasThen|hasElse),
		api.Reply: asks(0, hasA),
		api.Fail:  asks(0, 0),
		api.Await: asks(hasName|hasA, 0),
	}
}

// asks makes the rule that all fields of must are there, and others of may at most.
func asks(must, may fields) rule {
	return func(s api.Stmt) bool {
		f := used(s)
		return f&must == must && f&^(must|may) == 0
	}
}

func mayAct(s api.Stmt) bool {
	silent := s.Able == api.Get || s.Able == api.Cut
	return able.One(s.Able) && (!silent || isNone(s.B))
}

func mayMake(s api.Stmt) bool {
	const made = hasName | hasWhat
	switch s.What {
	case api.Cell:
		return asks(made, hasA)(s)
	case api.Log, api.Tally, api.Queue, api.Mint:
		return asks(made, 0)(s)
	case api.Facet:
		return asks(made|hasA, hasAble)(s)
	case api.Gate, api.Tap:
		return asks(made|hasSecond|hasA, 0)(s)
	case api.Sealer, api.Promise:
		return asks(made|hasSecond, 0)(s)
	case api.Clerk:
		return asks(made, hasCode|hasWith)(s) && len(s.With) <= api.MaxNames && mayList(s.With)
	}
	return false
}

// may says whether s may be, its blocks left aside.
func may(rules map[api.Op]rule, s api.Stmt) bool {
	fits := rules[s.Op]
	if fits == nil || !fits(s) || !able.May(s.Able) {
		return false
	}
	nameFits := s.Name == "" || MayName(s.Name) && s.Name != s.Second
	secondFits := s.Second == "" || MayName(s.Second)
	return nameFits && secondFits && (isNone(s.A) || MayExpr(s.A)) && (isNone(s.B) || MayExpr(s.B))
}

// mayList says whether these are names, no two the same.
func mayList(names []string) bool {
	met := make(map[string]struct{})
	for _, name := range names {
		if _, ok := met[name]; ok || !MayName(name) {
			return false
		}
		met[name] = struct{}{}
	}
	return true
}

// MayName says whether s is a name.
func MayName(s string) bool {
	if len(s) < 1 || len(s) > api.MaxName || !isLetter(s[0]) {
		return false
	}
	for i := range len(s) {
		if !isLetter(s[i]) && (s[i] < '0' || s[i] > '9') {
			return false
		}
	}
	return true
}

func isLetter(c byte) bool { return c >= 'a' && c <= 'z' }

// MayExpr says whether e may be.
func MayExpr(e api.Expr) bool {
	_, ok := parts(e, api.MaxParts, api.MaxNest)
	return ok
}

// parts tells how many parts e has, if it may be, has no more than left, and is nested no deeper than nest.
func parts(e api.Expr, left, nest int) (n int, ok bool) {
	if left < 1 || !proper(e) || e.Kind == api.EList && nest < 1 {
		return 0, false
	}
	n = 1
	for _, part := range e.L {
		more, ok := parts(part, left-n, nest-1)
		if !ok {
			return 0, false
		}
		n += more
	}
	return n, true
}

// proper says whether e has a kind, and nothing in the fields that its kind does not name.
func proper(e api.Expr) bool {
	noN, noS, noL := e.N == 0, e.S == "", len(e.L) == 0
	switch e.Kind {
	case api.ENumber:
		return noS && noL
	case api.EText:
		return noN && noL && len(e.S) <= api.MaxText
	case api.EList:
		return noN && noS
	case api.EName:
		return noN && noL && MayName(e.S)
	}
	return false
}
