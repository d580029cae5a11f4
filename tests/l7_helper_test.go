package tests

import (
	"maps"
	"strings"

	"loop.example/classicalcontrol/impl"
)

// A comesTo is what goes on with a value.
type comesTo func(v textValue)

// A textValue is a value as the helper has it: a function is what goes on with an argument. The shape is empty if it has more than 6000 bytes.
type textValue struct {
	shape string
	apply func(v textValue, on comesTo)
	parts []textValue
}

// A teller counts the moves of a source term, and tells where it ends.
type teller struct {
	moves int
	ended bool
	run   impl.Run
}

// ends is what goes on with nothing but a name for the end.
func (w *teller) ends(end string) comesTo {
	return func(v textValue) {
		w.ended = v.shape != "" && w.moves <= 2000
		w.run = impl.Run{End: end, Shape: v.shape, Moves: w.moves}
	}
}

// tell goes through the text of a source term, without frames: a stack is what goes on with a value.
func (w *teller) tell(s string, values map[string]textValue, stacks map[string]comesTo, on comesTo) {
	w.moves++
	if w.moves > 2000 {
		return
	}
	if !strings.HasPrefix(s, "(") {
		v, ok := values[s]
		if !ok {
			v = textValue{shape: s}
		}
		on(v)
		return
	}
	parts := textParts(s)
	switch parts[0] {
	case "lam":
		on(textValue{shape: "fun", apply: func(v textValue, on comesTo) {
			within := maps.Clone(values)
			within[parts[1]] = v
			w.tell(parts[2], within, stacks, on)
		}})
	case "app":
		w.tell(parts[1], values, stacks, func(f textValue) {
			if f.apply == nil {
				w.ends("stuck")(f)
				return
			}
			w.moves++
			w.tell(parts[2], values, stacks, func(v textValue) {
				w.moves++
				f.apply(v, on)
			})
		})
	case "both":
		w.tell(parts[1], values, stacks, func(first textValue) {
			w.moves++
			w.tell(parts[2], values, stacks, func(second textValue) {
				w.moves++
				on(pairOf(first, second))
			})
		})
	case "left", "right":
		w.tell(parts[1], values, stacks, w.part(parts[0], on))
	case "catch":
		within := maps.Clone(stacks)
		within[parts[1]] = on
		w.tell(parts[2], values, within, on)
	case "throw":
		to, ok := stacks[parts[1]]
		if !ok {
			to = w.ends(parts[1])
		}
		w.tell(parts[2], values, stacks, to)
	}
}

// part is what goes on with a part of a pair.
func (w *teller) part(word string, on comesTo) comesTo {
	return func(v textValue) {
		switch {
		case v.parts == nil:
			w.ends("stuck")(v)
			return
		case word == "left":
			v = v.parts[0]
		default:
			v = v.parts[1]
		}
		w.moves++
		on(v)
	}
}

func pairOf(first, second textValue) textValue {
	pair := textValue{parts: []textValue{first, second}}
	if first.shape == "" || second.shape == "" {
		return pair
	}
	shape := "(both " + first.shape + " " + second.shape + ")"
	if len(shape) <= 6000 {
		pair.shape = shape
	}
	return pair
}

// machineText tells from the text of a source term how the machine ends.
func machineText(s string) (impl.Run, bool) {
	w := &teller{}
	w.tell(s, map[string]textValue{}, map[string]comesTo{}, w.ends(""))
	if !w.ended {
		return impl.Run{}, false
	}
	return w.run, true
}

// machineStatement tells from the text of a source term the statement of its machine, or "" if there is none.
func machineStatement(s string) string {
	p := sourceProgram(s)
	if p == "" || count(sourceFree(s), "m99") > 0 {
		return ""
	}
	statement := canonOfText("(cut " + p + " m99)")
	if programKind(statement) == "" {
		return ""
	}
	return statement
}

// shapeText tells from the text of a term its shape, or "" if it is no value that has one.
func shapeText(s string) string {
	if programKind(s) != "term" || !valueText(s) {
		return ""
	}
	if !strings.HasPrefix(s, "(") {
		return s
	}
	parts := textParts(s)
	switch parts[0] {
	case "not":
		return "fun"
	case "pair":
		first, second := shapeText(parts[1]), shapeText(parts[2])
		if first != "" && second != "" {
			return "(both " + first + " " + second + ")"
		}
	}
	return ""
}

// endsAs tells from the text of a stuck statement whether it ends in the way of a run.
func endsAs(run impl.Run, statement string) bool {
	parts := textParts(statement)
	term, coterm := parts[1], parts[2]
	if run.End == "stuck" {
		return nameText.MatchString(term) && strings.HasPrefix(coterm, "(")
	}
	want := run.End
	if want == "" {
		want = "m99"
	}
	return coterm == want && shapeText(term) == run.Shape
}

// agreesText tells from the text of a source term whether the machine ends where the statement does.
func agreesText(s string) bool {
	run, ok := machineText(s)
	statement := machineStatement(s)
	if !ok || statement == "" {
		return false
	}
	r := runText("value", statement, 300)
	return r.stuck && endsAs(run, r.end)
}

// applied makes source terms that go on for some moves: functions and pairs that are taken apart, and throws out of them.
func (m *maker) applied(count int) []string {
	some := []string{"(lam x x)", "(lam y (both y x))", "(both x (lam z z))", "(lam z (throw k z))", "(lam x (lam y (both x y)))", "x", "(both y z)"}
	shapes := []string{"(app (lam V N) M)", "(app (lam V (app V N)) M)", "(app (lam V (app M V)) N)", "(left (both M N))", "(right (both M N))", "(catch C (left (both M (throw C N))))", "(catch C (app (lam V (throw C V)) M))", "(app (catch C (lam V (throw C (lam z (both V z))))) M)", "(both M N)", "(app M N)", "(lam V (catch C (both V (throw C M))))"}
	for range count {
		by := strings.NewReplacer("M", some[m.below(len(some))], "N", some[m.below(len(some))], "V", fewVariables[m.below(5)], "C", fewCovariables[m.below(5)])
		if s := by.Replace(shapes[m.below(len(shapes))]); isSource(s) {
			some = append(some, s)
		}
	}
	return some
}
