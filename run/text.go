package run

import (
	"slices"
	"strconv"

	"postern/api"
	"postern/code"
	"postern/value"
	"postern/word"
)

// Text tells the text of a line, s being the subject behind it.
func Text(s api.Subject, line api.Line) (string, api.Errno) {
	if !mayLine(line) {
		return "", api.ErrArg
	}
	return text(s.Seen, line)
}

// Texts tells the texts of lines, first being the subject ahead of them.
func Texts(first api.Subject, lines []api.Line) ([]string, api.Errno) {
	seen := slices.Clone(first.Seen)
	next := func(line api.Line) (string, api.Errno) {
		if !mayLine(line) {
			return "", api.ErrArg
		}
		seen = see(seen, told(line)...)
		return text(seen, line)
	}
	var texts []string
	for _, line := range lines {
		s, e := next(line)
		if e != api.OK {
			return nil, e
		}
		texts = append(texts, s)
	}
	return texts, api.OK
}

// mayLine says whether a line is one that Step tells.
func mayLine(line api.Line) bool {
	named, second := false, line.Second == ""
	switch line.Op {
	case api.Let, api.Act, api.Part, api.Await:
		named = true
	case api.Make:
		named = true
		second = second || code.MayName(line.Second) && line.Second != line.Name
	case api.Same, api.Can, api.Reply:
	case api.Fail:
		if line.Code != api.ErrFail {
			return false
		}
	default:
		return false
	}
	name := named && code.MayName(line.Name) || !named && line.Name == ""
	return name && second && mayTell(line)
}

// mayTell says whether what a line tells is as its Op and its Code have it.
func mayTell(line api.Line) bool {
	nothing := isNothing(line.Value) && isNothing(line.Other)
	branches := line.Op == api.Same || line.Op == api.Can
	switch {
	case line.Code != api.OK:
		return line.Code > 0 && nothing && !line.Then
	case line.Then && !branches:
		return false
	case branches:
		return nothing
	case line.Op == api.Make:
		return isRef(line.Value) && (line.Second != "" && isRef(line.Other) || line.Second == "" && isNothing(line.Other))
	}
	return value.May(line.Value) && isNothing(line.Other)
}

func isNothing(v api.Value) bool { return v.Kind == api.Nothing && value.May(v) }

func isRef(v api.Value) bool { return v.Kind == api.Reference && value.May(v) }

// text tells the text of a line that may be, where these things were seen.
func text(seen []api.Ref, line api.Line) (string, api.Errno) {
	if line.Code != api.OK {
		return "fault " + strconv.Itoa(int(line.Code)), api.OK
	}
	v, e := written(seen, line.Value)
	other, f := written(seen, line.Other)
	if e != api.OK || f != api.OK {
		return "", api.ErrLine
	}
	switch line.Op {
	case api.Same, api.Can:
		if line.Then {
			return "then", api.OK
		}
		return "else", api.OK
	case api.Reply:
		return "reply " + v, api.OK
	}
	s := line.Name + " = " + v
	if line.Second != "" {
		s += " " + line.Second + " = " + other
	}
	return s, api.OK
}

// written tells the text of a value in which each reference is written by its place in what was seen.
func written(seen []api.Ref, v api.Value) (string, api.Errno) {
	refs := value.Refs(v)
	var places []api.Ref
	for _, r := range refs {
		place := slices.Index(seen, r)
		if place < 0 {
			return "", api.ErrLine
		}
		places = append(places, api.Ref(place+1))
	}
	v, _ = value.Rename(v, refs, places)
	return word.Text(v)
}
