package code

import (
	"slices"

	"postern/api"
	"postern/value"
)

// MayNames says whether names may be.
func MayNames(names []api.Name) bool {
	if len(names) > api.MaxNames {
		return false
	}
	var list []string
	for _, n := range names {
		if !value.May(n.Value) {
			return false
		}
		list = append(list, n.Name)
	}
	return mayList(list)
}

// Work tells what e works out to.
func Work(names []api.Name, e api.Expr) (api.Value, api.Errno) {
	if !MayNames(names) || !isNone(e) && !MayExpr(e) {
		return api.Value{}, api.ErrArg
	}
	// The first error stays; behind it nothing is put together any more.
	first := api.OK
	list := func(l []api.Value) api.Value {
		if first != api.OK {
			return api.Value{}
		}
		v, e := value.Of(l...)
		if e != api.OK {
			first = api.ErrLimit
		}
		return v
	}
	v := work(names, e, list)
	if first != api.OK {
		return api.Value{}, first
	}
	return v, api.OK
}

func work(names []api.Name, e api.Expr, list func(l []api.Value) api.Value) api.Value {
	switch e.Kind {
	case api.ENumber:
		return api.Value{Kind: api.Number, N: e.N}
	case api.EText:
		return api.Value{Kind: api.Text, S: e.S}
	case api.EName:
		v, _ := Get(names, e.S)
		return v
	case api.EList:
		var l []api.Value
		for _, part := range e.L {
			l = append(l, work(names, part, list))
		}
		return list(l)
	}
	return api.Value{}
}

// Get tells what a name stands for.
func Get(names []api.Name, name string) (api.Value, bool) {
	i := place(names, name)
	if i < 0 {
		return api.Value{}, false
	}
	return own(names[i].Value), true
}

// place tells where a name stands first; -1, if it does not.
func place(names []api.Name, name string) int {
	return slices.IndexFunc(names, func(n api.Name) bool { return n.Name == name })
}

// own copies a value; of one that may not be a list is left out, as nobody can say how long it is.
func own(v api.Value) api.Value {
	mine, e := value.Own(v)
	if e != api.OK {
		v.L = nil
		return v
	}
	return mine
}

// Set tells the names with v for that one.
func Set(names []api.Name, name string, v api.Value) ([]api.Name, api.Errno) {
	if !MayNames(names) || !MayName(name) || !value.May(v) {
		return nil, api.ErrArg
	}
	set := mapped(names, func(n api.Name) api.Name { return api.Name{Name: n.Name, Value: own(n.Value)} })
	if i := place(set, name); i >= 0 {
		set[i].Value = own(v)
		return set, api.OK
	}
	if len(set) == api.MaxNames {
		return nil, api.ErrLimit
	}
	return append(set, api.Name{Name: name, Value: own(v)}), api.OK
}

// Only tells those names, each with what it stands for.
func Only(names []api.Name, with []string) ([]api.Name, api.Errno) {
	if !MayNames(names) || !mayList(with) {
		return nil, api.ErrArg
	}
	var only []api.Name
	for _, name := range with {
		v, _ := Get(names, name)
		only = append(only, api.Name{Name: name, Value: v})
	}
	return only, api.OK
}
