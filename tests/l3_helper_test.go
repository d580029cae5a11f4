package tests

import (
	"maps"
	"regexp"
	"slices"
	"strconv"
	"strings"

	"loop.example/classicalcontrol/impl"
)

// Equations tell which types must be the same. T1. and T2. and so on stand for what is not known; letters stand for themselves.
type equations struct {
	unknowns int
	pairs    [][2]string
}

var unknownText = regexp.MustCompile(`T[0-9a-z]+\.`)

func (e *equations) unknown() string {
	e.unknowns++
	return "T" + strconv.Itoa(e.unknowns) + "."
}

// typeText tells from the text of a program its type, with those of names, and adds what must be the same.
func (e *equations) typeText(s string, types map[string]string) string {
	if !strings.HasPrefix(s, "(") {
		return types[s]
	}
	parts := textParts(s)
	if parts[0] == "mu" || parts[0] == "tmu" {
		inner := maps.Clone(types)
		inner[parts[1]] = e.unknown()
		e.typeText(parts[2], inner)
		return inner[parts[1]]
	}
	var of []string
	for _, part := range parts[1:] {
		of = append(of, e.typeText(part, types))
	}
	return e.formType(parts[0], of)
}

// formType tells the type of a form by its head and the types of its parts.
func (e *equations) formType(head string, of []string) string {
	switch head {
	case "cut":
		e.pairs = append(e.pairs, [2]string{of[0], of[1]})
		return ""
	case "pair":
		return "(* " + of[0] + " " + of[1] + ")"
	case "case":
		return "(+ " + of[0] + " " + of[1] + ")"
	case "inl":
		return "(+ " + of[0] + " " + e.unknown() + ")"
	case "inr":
		return "(+ " + e.unknown() + " " + of[0] + ")"
	case "fst":
		return "(* " + of[0] + " " + e.unknown() + ")"
	case "snd":
		return "(* " + e.unknown() + " " + of[0] + ")"
	}
	return "(- " + of[0] + ")"
}

// solve writes what is found for each unknown into the texts and all that is left, until nothing is.
func (e *equations) solve(texts []string) ([]string, bool) {
	pairs, solved := slices.Clone(e.pairs), slices.Clone(texts)
	for len(pairs) > 0 {
		a, b := pairs[0][0], pairs[0][1]
		pairs = pairs[1:]
		if strings.HasPrefix(b, "T") {
			a, b = b, a
		}
		switch {
		case a == b:
		case strings.HasPrefix(a, "T"):
			if strings.Contains(b, a) {
				return nil, false
			}
			for i := range pairs {
				pairs[i] = [2]string{strings.ReplaceAll(pairs[i][0], a, b), strings.ReplaceAll(pairs[i][1], a, b)}
			}
			for i := range solved {
				solved[i] = strings.ReplaceAll(solved[i], a, b)
			}
		case strings.HasPrefix(a, "(") && strings.HasPrefix(b, "(") && a[1] == b[1]:
			inA, inB := textParts(a), textParts(b)
			for i := range inA[1:] {
				pairs = append(pairs, [2]string{inA[1+i], inB[1+i]})
			}
		default:
			return nil, false
		}
	}
	return solved, true
}

// typingText tells from the text of a program its principal typing.
func typingText(s string) (impl.Typing, bool) {
	e := &equations{}
	names := once(programFree(s))
	given := map[string]string{}
	for _, name := range names {
		given[name] = e.unknown()
	}
	whole := e.typeText(s, given)
	var texts []string
	for _, name := range names {
		texts = append(texts, given[name])
	}
	solved, ok := e.solve(append(texts, whole))
	if !ok {
		return impl.Typing{}, false
	}
	for i, of := range lettered(solved) {
		solved[i] = of
		if len(atomText.FindAllString(of, -1)) > 60 {
			return impl.Typing{}, false
		}
	}
	return impl.Typing{Names: names, Types: solved[:len(names)], Type: solved[len(names)]}, true
}

// lettered writes a to z, a1 to z1 and so on for the unknowns, in the order in which they stand in the texts.
func lettered(texts []string) []string {
	order := once(unknownText.FindAllString(strings.Join(texts, " "), -1))
	var written []string
	for _, s := range texts {
		written = append(written, unknownText.ReplaceAllStringFunc(s, func(u string) string { return typeLetters[slices.Index(order, u)] }))
	}
	return written
}

// typeLetters are the letters of principal typings in their order.
var typeLetters = func() []string {
	letters := strings.Split("abcdefghijklmnopqrstuvwxyz", "")
	for number := 1; number < 20; number++ {
		for _, first := range letters[:26] {
			letters = append(letters, first+strconv.Itoa(number))
		}
	}
	return letters
}()

// hasText tells from the text of a program whether it has types; all of its free names are among the names.
func hasText(s string, names []string, types []string, whole string) bool {
	e := &equations{}
	given := map[string]string{}
	for i, name := range names {
		given[name] = types[i]
	}
	of := e.typeText(s, given)
	if (of == "") != (whole == "") {
		return false
	}
	if of != "" {
		e.pairs = append(e.pairs, [2]string{of, whole})
	}
	_, ok := e.solve(nil)
	return ok
}

// instanceText tells from the texts of two typings of the same names whether one comes from the other.
func instanceText(general impl.Typing, y impl.Typing) bool {
	e := &equations{}
	ofY := append(slices.Clone(y.Types), y.Type)
	for i, of := range append(slices.Clone(general.Types), general.Type) {
		if (of == "") != (ofY[i] == "") {
			return false
		}
		if of != "" {
			e.pairs = append(e.pairs, [2]string{letterText.ReplaceAllString(of, "T$0."), ofY[i]})
		}
	}
	_, ok := e.solve(nil)
	return ok
}

// sameTyping tells whether two typings are just the same.
func sameTyping(a impl.Typing, b impl.Typing) bool {
	return slices.Equal(a.Names, b.Names) && slices.Equal(a.Types, b.Types) && a.Type == b.Type
}

// emptyTyping tells whether a typing is that of what fails.
func emptyTyping(y impl.Typing) bool {
	return len(y.Names) == 0 && len(y.Types) == 0 && y.Type == ""
}

// replaceLetters puts a text for each letter of all types.
func replaceLetters(y impl.Typing, by func(string) string) impl.Typing {
	put := impl.Typing{Names: slices.Clone(y.Names), Type: letterText.ReplaceAllStringFunc(y.Type, by)}
	for _, of := range y.Types {
		put.Types = append(put.Types, letterText.ReplaceAllStringFunc(of, by))
	}
	return put
}

// formulasOnly tells whether all types are formulas.
func formulasOnly(y impl.Typing) bool {
	for _, of := range y.Types {
		if !isFormula(of) {
			return false
		}
	}
	return y.Type == "" || isFormula(y.Type)
}

// A typist makes programs that have types. What is free is in the list: names of few letters, which are bound in places, and as many others as are needed.
type typist struct {
	*maker
	names, types []string
}

var fewTypes = []string{"a", "b", "(* a b)", "(+ b a)", "(- a)", "(- (* a (- b)))", "(+ a (- a))", "c1"}

func newTypist(m *maker) *typist {
	w := &typist{maker: m}
	for _, name := range append(slices.Clone(fewVariables), fewCovariables...) {
		w.names = append(w.names, name)
		w.types = append(w.types, w.someType())
	}
	return w
}

func (w *typist) someType() string { return fewTypes[w.below(len(fewTypes))] }

// visible returns the names of a class that have a type here; what is bound is behind what is free, and hides it.
func (w *typist) visible(class string, of string, names []string, types []string) []string {
	var found []string
	for i, name := range names {
		if types[i] == of && strings.Contains(class, name[:1]) && !slices.Contains(names[i+1:], name) {
			found = append(found, name)
		}
	}
	return found
}

// name returns a name that has a type here, or a new one that is bound nowhere.
func (w *typist) name(class string, of string, names []string, types []string) string {
	found := w.visible(class, of, names, types)
	if len(found) > 0 {
		return found[w.below(len(found))]
	}
	name := class[2:] + strconv.Itoa(100+len(w.names))
	w.names = append(w.names, name)
	w.types = append(w.types, of)
	return name
}

// typed makes a term or coterm of a type, with the names that are bound here and their types.
func (w *typist) typed(kind string, of string, names []string, types []string, deep int) string {
	class, binder, bound, other := "xyz", "mu", fewCovariables, "coterm"
	if kind == "coterm" {
		class, binder, bound, other = "klm", "tmu", fewVariables, "term"
	}
	choice := w.below(8)
	if deep <= 0 || choice == 0 {
		return w.name(class, of, slices.Concat(w.names, names), slices.Concat(w.types, types))
	}
	if choice < 4 || !strings.HasPrefix(of, "(") {
		name := bound[w.below(len(bound))]
		return "(" + binder + " " + name + " " + w.cut(append(slices.Clone(names), name), append(slices.Clone(types), of), deep-1) + ")"
	}
	return w.formOf(kind, other, of, names, types, deep)
}

// formOf makes a form that is of a type with a sign.
func (w *typist) formOf(kind string, other string, of string, names []string, types []string, deep int) string {
	parts := textParts(of)
	switch parts[0] + " " + kind {
	case "- term":
		return "(not " + w.typed(other, parts[1], names, types, deep-1) + ")"
	case "- coterm":
		return "(neg " + w.typed(other, parts[1], names, types, deep-1) + ")"
	case "* term":
		return "(pair " + w.typed(kind, parts[1], names, types, deep-1) + " " + w.typed(kind, parts[2], names, types, deep-1) + ")"
	case "+ coterm":
		return "(case " + w.typed(kind, parts[1], names, types, deep-1) + " " + w.typed(kind, parts[2], names, types, deep-1) + ")"
	}
	side := w.below(2)
	heads := map[string][2]string{"term": {"inl", "inr"}, "coterm": {"fst", "snd"}}
	return "(" + heads[kind][side] + " " + w.typed(kind, parts[1+side], names, types, deep-1) + ")"
}

func (w *typist) cut(names []string, types []string, deep int) string {
	of := w.someType()
	return "(cut " + w.typed("term", of, names, types, deep) + " " + w.typed("coterm", of, names, types, deep) + ")"
}

// A typedProgram has its typing, with names beyond the free ones.
type typedProgram struct {
	text  string
	names []string
	types []string
	whole string
}

// typedPrograms makes programs that have types, of all kinds in turn.
func (m *maker) typedPrograms(count int, deep int) []typedProgram {
	var made []typedProgram
	for i := range count {
		w := newTypist(m)
		p := typedProgram{whole: w.someType()}
		switch i % 3 {
		case 0:
			p.text = w.typed("term", p.whole, nil, nil, deep)
		case 1:
			p.text = w.typed("coterm", p.whole, nil, nil, deep)
		case 2:
			p.text, p.whole = w.cut(nil, nil, deep), ""
		}
		p.names, p.types = w.names, w.types
		if programKind(p.text) != "" {
			made = append(made, p)
		}
	}
	return made
}

// ownTyping leaves out the names that are not free.
func (p typedProgram) ownTyping() impl.Typing {
	y := impl.Typing{Names: once(programFree(p.text)), Type: p.whole}
	for _, name := range y.Names {
		y.Types = append(y.Types, p.types[slices.Index(p.names, name)])
	}
	return y
}

// beside makes one statement of many, whose types are found together, and in which nothing of them is bound.
func beside(statements ...string) string {
	s := statements[len(statements)-1]
	for i := len(statements) - 2; i >= 0; i-- {
		s = "(cut (mu m999 " + statements[i] + ") (tmu z999 " + s + "))"
	}
	return s
}
