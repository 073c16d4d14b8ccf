package pick

import (
	"slices"

	"postern/api"
	"postern/code"
	"postern/value"
)

// ownAll makes a list of what is made of each; of an empty one none.
func ownAll[T any](l []T, own func(T) T) []T {
	if len(l) == 0 {
		return nil
	}
	out := make([]T, len(l))
	for i, x := range l {
		out[i] = own(x)
	}
	return out
}

func ownValue(v api.Value) api.Value {
	mine, _ := value.Own(v)
	return mine
}

func ownName(n api.Name) api.Name { return api.Name{Name: n.Name, Value: ownValue(n.Value)} }

func ownSubject(s api.Subject) api.Subject {
	s.Code, _ = code.Own(s.Code)
	s.Names, s.Seen = ownAll(s.Names, ownName), slices.Clone(s.Seen)
	return s
}

func ownLine(line api.Line) api.Line {
	line.Value, line.Other = ownValue(line.Value), ownValue(line.Other)
	return line
}

func ownDeed(d api.Deed) api.Deed {
	d.With, d.Answer = ownValue(d.With), ownValue(d.Answer)
	d.Made, d.Names = slices.Clone(d.Made), ownAll(d.Names, ownName)
	return d
}

func ownDone(d api.Done) api.Done {
	d.Line, d.Deeds = ownLine(d.Line), ownAll(d.Deeds, ownDeed)
	return d
}

func sameName(m, n api.Name) bool { return m.Name == n.Name && value.Same(m.Value, n.Value) }

func sameSubject(s, t api.Subject) bool {
	return s.Side == t.Side && code.Same(s.Code, t.Code) && slices.EqualFunc(s.Names, t.Names, sameName) && slices.Equal(s.Seen, t.Seen)
}

func sameLine(x, y api.Line) bool {
	return x.Op == y.Op && x.Name == y.Name && x.Second == y.Second && value.Same(x.Value, y.Value) &&
		value.Same(x.Other, y.Other) && x.Then == y.Then && x.Code == y.Code
}

func sameDeed(x, y api.Deed) bool {
	return x.Kind == y.Kind && x.By == y.By && x.On == y.On && x.Base == y.Base && x.Able == y.Able && x.What == y.What &&
		value.Same(x.With, y.With) && value.Same(x.Answer, y.Answer) && slices.Equal(x.Made, y.Made) &&
		slices.EqualFunc(x.Names, y.Names, sameName)
}

func sameDone(x, y api.Done) bool {
	return x.Turn == y.Turn && sameLine(x.Line, y.Line) && slices.EqualFunc(x.Deeds, y.Deeds, sameDeed)
}
