package house

import (
	"strconv"

	"postern/able"
	"postern/api"
	"postern/graph"
	"postern/never"
	"postern/plan"
	"postern/purse"
	"postern/trace"
	"postern/word"
)

// question tells the lines that are told of a question, whose Args it takes.
type question func(h *House, a args) []string

// Words tells all words of questions, in the order of their table.
func Words() []string {
	return []string{
		"lines", "holds", "reach", "path", "parts", "able", "free", "sum", "may", "wants",
		"why", "twin", "parted", "live", "sweep", "snap", "tight", "torn", "whole",
	}
}

// questions tells what each word does.
func questions() map[string]question {
	return map[string]question{
		"lines":  (*House).askLines,
		"holds":  (*House).askHolds,
		"reach":  (*House).askReach,
		"path":   (*House).askPath,
		"parts":  (*House).askParts,
		"able":   (*House).askAble,
		"free":   (*House).askFree,
		"sum":    (*House).askSum,
		"may":    (*House).askMay,
		"wants":  (*House).askWants,
		"why":    (*House).askWhy,
		"twin":   (*House).askTwin,
		"parted": (*House).askParted,
		"live":   (*House).askLive,
		"sweep":  (*House).askSweep,
		"snap":   (*House).askSnap,
		"tight":  (*House).askTight,
		"torn":   (*House).askTorn,
		"whole":  (*House).askWhole,
	}
}

// failed is what a question gives up with: an error of a layer, or its own.
type failed struct{ e api.Errno }

// must gives up, if there is an error.
func must(e api.Errno) {
	if e != api.OK {
		panic(failed{e})
	}
}

// ask tells what is told of a question.
func (h *House) ask(q api.Quest) (told []string) {
	defer func() {
		met := recover()
		if met == nil {
			return
		}
		f, ok := met.(failed)
		if !ok {
			panic(met)
		}
		told = answer(f.e.Error())
	}()
	does := questions()[q.Word]
	if does == nil {
		must(api.ErrAsk)
	}
	return answer(does(h, h.take(q.Args))...)
}

// nothing is told where there is nothing to tell.
const nothing = "-"

// answer makes the lines of an answer.
func answer(lines ...string) []string {
	if len(lines) == 0 {
		lines = []string{nothing}
	}
	told := make([]string, len(lines))
	for i, line := range lines {
		told[i] = "= " + line
	}
	return told
}

// one makes the one line of an answer.
func one(line string) []string { return []string{line} }

// refs tells references in one line.
func refs(l []api.Ref) []string {
	values := make([]api.Value, len(l))
	for i, r := range l {
		values[i] = reference(r)
	}
	return row(values)
}

// row tells values in one line, if there are any.
func row(l []api.Value) []string {
	if len(l) == 0 {
		return nil
	}
	text, e := word.Row(l...)
	must(e)
	return one(text)
}

func number(n int64) api.Value { return api.Value{Kind: api.Number, N: n} }

func reference(r api.Ref) api.Value { return api.Value{Kind: api.Reference, R: r} }

// node tells a subject as its place, a thing as a reference.
func node(n api.Node) api.Value {
	if n.Is {
		return reference(n.Ref)
	}
	return number(int64(n.Who))
}

func (h *House) askLines(a args) []string {
	who := a.who()
	a.end()
	lines, e := h.Lines(who)
	must(e)
	return lines
}

func (h *House) askHolds(a args) []string {
	who := a.who()
	a.end()
	l, e := graph.Holds(h.play.World(), h.play.Subjects()[who])
	must(e)
	return refs(l)
}

func (h *House) askReach(a args) []string {
	who := a.who()
	a.end()
	l, e := graph.Reach(h.play.World(), h.play.Subjects()[who])
	must(e)
	return refs(l)
}

func (h *House) askPath(a args) []string {
	who, to := a.who(), a.ref()
	a.end()
	l, _, e := graph.Path(h.play.World(), h.play.Subjects()[who], to)
	must(e)
	return refs(l)
}

func (h *House) askParts(a args) []string {
	a.end()
	parts, e := graph.Parts(h.play.World(), h.play.Subjects()...)
	must(e)
	var lines []string
	for _, part := range parts {
		var values []api.Value
		for _, n := range part {
			values = append(values, node(n))
		}
		lines = append(lines, row(values)...)
	}
	return lines
}

func (h *House) askAble(a args) []string {
	r := a.ref()
	a.end()
	text, e := able.Text(h.play.World().Able(r))
	must(e)
	return one(text)
}

func (h *House) askFree(a args) []string {
	side, r := a.side(), a.ref()
	a.end()
	if h.play.World().Free(side, r) != api.OK {
		return one("cut")
	}
	return one("open")
}

func (h *House) askSum(a args) []string {
	mint := a.mint()
	a.end()
	held, lost, made, e := purse.Sum(h.play.World(), mint)
	must(e)
	return row([]api.Value{number(held), number(lost), number(made)})
}

func (h *House) askMay(a args) []string {
	q := api.Question{By: a.who(), Able: a.able(), Thing: a.ref()}
	a.end()
	w, l := h.play.World(), h.play.Subjects()
	cert, e := never.Make(w, q, l...)
	if e == api.ErrMay {
		return one("may")
	}
	must(e)
	// What is told here does not hang on who made the certificate: it is checked.
	_, e = never.Check(w, cert, l...)
	must(e)
	q, f, e := never.Read(w, cert, l...)
	must(e)
	rows, bytes, e := never.Size(q, f)
	must(e)
	return one("never " + pair(rows, bytes))
}

// pair tells two numbers.
func pair(m, n int) string { return strconv.Itoa(m) + " " + strconv.Itoa(n) }

func (h *House) askWants(a args) []string {
	a.end()
	wants, e := plan.All(h.play.World(), h.play.Subjects()...)
	must(e)
	var lines []string
	for _, want := range wants {
		can, e := able.Text(want.Can)
		must(e)
		lines = append(lines, strconv.Itoa(want.Who)+" "+can+" "+text(reference(want.What)))
	}
	return lines
}

// text tells the text of a value that may be.
func text(v api.Value) string {
	s, e := word.Text(v)
	must(e)
	return s
}

func (h *House) askWhy(a args) []string {
	who, r := a.who(), a.ref()
	a.end()
	t, e := trace.Of(h.play)
	must(e)
	chain, e := t.Why(api.Node{Who: who}, r)
	if e == api.ErrNever {
		return nil
	}
	must(e)
	var lines []string
	for _, c := range chain {
		lines = append(lines, text(node(c.To))+" "+text(reference(c.Ref))+" "+moment(c.At))
	}
	return lines
}

// moment tells when something came.
func moment(at api.Moment) string {
	if at == (api.Moment{}) {
		return "begin"
	}
	return strconv.Itoa(at.Done) + "." + strconv.Itoa(at.Deed)
}

func (h *House) askWhole(a args) []string {
	a.end()
	e := purse.Check(h.play.World())
	if e == api.ErrMoney {
		return one("no")
	}
	must(e)
	return one("yes")
}
