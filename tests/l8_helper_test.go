package tests

import (
	"slices"
	"strconv"
	"strings"
	"sync"

	"loop.example/classicalcontrol/impl"
)

// A goal is a sequent with the found proof of it and the number of its rules, or "" and -1.
type goal struct {
	left, right []string
	proof       string
	rules       int
}

// In a rule X stands for the name of what is taken apart, Y and Z for those of its parts, and S and T for what is found with them.
var ruleTexts = map[string]string{
	"left *":  "(cut X (fst (tmu Y (cut X (snd (tmu Z S))))))",
	"left +":  "(cut X (case (tmu Y S) (tmu Z T)))",
	"left -":  "(cut X (neg (mu Y S)))",
	"right *": "(cut (pair (mu Y S) (mu Z T)) X)",
	"right +": "(cut (inl (mu Y (cut (inr (mu Z S)) X))) X)",
	"right -": "(cut (not (tmu Y S)) X)",
}

// An openPlace is a mark in a proof where that of a sequent is still missing, whose formulas are pairs of a name and a text.
type openPlace struct {
	mark        string
	left, right [][2]string
}

// A proofWriter writes a proof from the outside, all branches in turn, into one text.
type proofWriter struct {
	text  string
	open  []openPlace
	names int
	marks int
}

// proofText tells from the texts of a sequent its found proof and the number of its rules.
func proofText(left []string, right []string) (string, int) {
	if !isSequent(left, right) {
		return "", -1
	}
	w := &proofWriter{names: 100}
	w.text = w.missing(numberedBy("x", left), numberedBy("k", right))
	rules := 0
	for len(w.open) > 0 {
		place := w.open[0]
		w.open = w.open[1:]
		rules++
		// There is a space ahead of each atom but the first one.
		if !w.write(place) || strings.Count(w.text, " ")+1 > 500 {
			return "", -1
		}
	}
	s := canonOfText(w.text)
	if programKind(s) != "statement" {
		return "", -1
	}
	return s, rules
}

func isSequent(left []string, right []string) bool {
	for _, f := range slices.Concat(left, right) {
		if !isFormula(f) {
			return false
		}
	}
	return len(left)+len(right) <= 12
}

func numberedBy(first string, formulas []string) [][2]string {
	var pairs [][2]string
	for i, f := range formulas {
		pairs = append(pairs, [2]string{first + strconv.Itoa(i), f})
	}
	return pairs
}

// missing returns a new mark where the proof of a sequent is missing.
func (w *proofWriter) missing(left [][2]string, right [][2]string) string {
	mark := "<" + strconv.Itoa(w.marks) + ">"
	w.marks++
	w.open = append(w.open, openPlace{mark, left, right})
	return mark
}

// write puts the first rule that fits at an open place, if one does.
func (w *proofWriter) write(p openPlace) bool {
	for _, x := range p.left {
		for _, k := range p.right {
			if x[1] == k[1] {
				w.text = strings.Replace(w.text, p.mark, "(cut "+x[0]+" "+k[0]+")", 1)
				return true
			}
		}
	}
	compound := func(f [2]string) bool { return strings.HasPrefix(f[1], "(") }
	if i := slices.IndexFunc(p.left, compound); i >= 0 {
		w.apart(p, "left", p.left[i], slices.Concat(p.left[:i], p.left[i+1:]), p.right)
		return true
	}
	if i := slices.IndexFunc(p.right, compound); i >= 0 {
		w.apart(p, "right", p.right[i], p.left, slices.Concat(p.right[:i], p.right[i+1:]))
		return true
	}
	return false
}

// apart puts the rule for a formula at an open place. What is bound by tmu comes to the left, and by mu to the right.
func (w *proofWriter) apart(p openPlace, side string, f [2]string, left [][2]string, right [][2]string) {
	parts := textParts(f[1])
	rule := ruleTexts[side+" "+parts[0]]
	by := []string{"X", f[0]}
	added := func(sign string, part string, left [][2]string, right [][2]string) ([][2]string, [][2]string) {
		w.names++
		name := "k" + strconv.Itoa(w.names)
		if strings.Contains(rule, "tmu "+sign) {
			name = "x" + name[1:]
			left = append(slices.Clone(left), [2]string{name, part})
		} else {
			right = append(slices.Clone(right), [2]string{name, part})
		}
		by = append(by, sign, name)
		return left, right
	}
	leftS, rightS := added("Y", parts[1], left, right)
	switch {
	case strings.Contains(rule, "T"):
		leftT, rightT := added("Z", parts[2], left, right)
		by = append(by, "T", w.missing(leftT, rightT))
	case strings.Contains(rule, "Z"):
		leftS, rightS = added("Z", parts[2], leftS, rightS)
	}
	by = append(by, "S", w.missing(leftS, rightS))
	w.text = strings.Replace(w.text, p.mark, strings.NewReplacer(by...).Replace(rule), 1)
}

// proofNames returns the names of the formulas of a sequent.
func proofNames(left []string, right []string) []string {
	var names []string
	for _, pair := range slices.Concat(numberedBy("x", left), numberedBy("k", right)) {
		names = append(names, pair[0])
	}
	return names
}

// isProof tells from the texts whether one is a proof of a sequent.
func isProof(s string, left []string, right []string) bool {
	if programKind(s) != "statement" || !isSequent(left, right) {
		return false
	}
	names := proofNames(left, right)
	return len(others(programFree(s), names)) == 0 && hasText(s, names, slices.Concat(left, right), "")
}

// isValid tells from the texts of a sequent whether it holds in all assignments.
func isValid(left []string, right []string) bool {
	for _, chosen := range assignments(formulaLetters(slices.Concat(left, right)...)) {
		if !sequentHolds(left, right, chosen) {
			return false
		}
	}
	return true
}

// listsOf returns all lists of formulas with just so many atoms together, for each number up to atoms.
func listsOf(atoms int, names []string) [][][]string {
	formulas := [][]string{nil, names}
	for n := 2; n <= atoms; n++ {
		var made []string
		for _, f := range formulas[n-1] {
			made = append(made, "(- "+f+")")
		}
		for i := 1; i < n-1; i++ {
			for _, f := range formulas[i] {
				for _, g := range formulas[n-1-i] {
					made = append(made, "(* "+f+" "+g+")", "(+ "+f+" "+g+")")
				}
			}
		}
		formulas = append(formulas, made)
	}
	lists := [][][]string{{nil}}
	for n := 1; n <= atoms; n++ {
		var made [][]string
		for i := 1; i <= n; i++ {
			for _, f := range formulas[i] {
				for _, rest := range lists[n-i] {
					made = append(made, append([]string{f}, rest...))
				}
			}
		}
		lists = append(lists, made)
	}
	return lists
}

// smallSequents are all of formulas with together at most so many atoms.
func smallSequents(atoms int, names []string) [][2][]string {
	lists := listsOf(atoms, names)
	var made [][2][]string
	for n := range atoms + 1 {
		for i := range n + 1 {
			for _, left := range lists[i] {
				for _, right := range lists[n-i] {
					made = append(made, [2][]string{left, right})
				}
			}
		}
	}
	return made
}

// validShapes are valid whatever formulas A, B and C stand for: those on the left, and those on the right.
var validShapes = [][2]string{
	{"A", "A"}, {"A,B", "B"}, {"A", "B,A"}, {"A,B", "B,A"}, {"", "A,(- A)"}, {"A,(- A)", ""}, {"", "(+ A (- A))"}, {"(* A (- A))", ""}, {"A", "(- (- A))"}, {"(- (- A))", "A"},
	{"(* A B)", "A"}, {"(* A B)", "B"}, {"A", "(+ A B)"}, {"B", "(+ A B)"}, {"(+ A B)", "A,B"}, {"A,B", "(* A B)"}, {"(* A B)", "(* B A)"}, {"(+ A B)", "(+ B A)"}, {"(* A B)", "(+ B A)"},
	{"(* A (* B C))", "(* (* A B) C)"}, {"(+ A (+ B C))", "(+ (+ A B) C)"}, {"(* A (+ B C))", "(+ (* A B) (* A C))"}, {"(+ (* A B) (* A C))", "(* A (+ B C))"}, {"(+ A (* B C))", "(* (+ A B) (+ A C))"}, {"(* (+ A B) (+ A C))", "(+ A (* B C))"},
	{"(- (* A B))", "(+ (- A) (- B))"}, {"(+ (- A) (- B))", "(- (* A B))"}, {"(- (+ A B))", "(* (- A) (- B))"}, {"(* (- A) (- B))", "(- (+ A B))"},
	{"(- (* A (- B))),A", "B"}, {"(+ A B),(- A)", "B"}, {"(+ A B),(+ (- A) C)", "(+ B C)"}, {"(- (* A (- B))),(- (* B (- C)))", "(- (* A (- C)))"}, {"(- (* (- (* A (- B))) (- A)))", "A"}, {"", "(- (* (- (* (- (* A (- B))) (- A))) (- A)))"},
}

// validSequent makes a sequent that is valid, often with more formulas than it needs for this.
func (m *maker) validSequent(atoms int, names []string) [2][]string {
	by := strings.NewReplacer("A", m.formula(1+m.below(atoms), names), "B", m.formula(1+m.below(atoms), names), "C", m.formula(1+m.below(atoms), names))
	shape := validShapes[m.below(len(validShapes))]
	var made [2][]string
	for side, texts := range shape {
		var formulas []string
		for f := range strings.SplitSeq(by.Replace(texts), ",") {
			if f != "" {
				formulas = append(formulas, f)
			}
		}
		for range m.below(3) {
			formulas = slices.Insert(formulas, m.below(len(formulas)+1), m.formula(1+m.below(atoms), names))
		}
		made[side] = formulas
	}
	return made
}

// goals are many sequents, small and great, of letters that are few, with and without a proof.
var goals = sync.OnceValue(func() []goal {
	made := slices.Concat(smallSequents(4, []string{"a", "b"}), someSequents())
	m := &maker{state: 81}
	for range 700 {
		made = append(made, m.validSequent(4, fewNames), m.validSequent(8, fewNames[:2]))
		made = append(made, [2][]string{m.formulas(m.below(3), 9, fewNames[:3]), m.formulas(m.below(3), 9, fewNames[:3])})
	}
	for range 100 {
		made = append(made, m.validSequent(18, fewNames), [2][]string{m.formulas(m.below(7), 20, fewNames), m.formulas(m.below(7), 20, fewNames)})
	}
	var found []goal
	for _, q := range made {
		proof, rules := proofText(q[0], q[1])
		found = append(found, goal{q[0], q[1], proof, rules})
	}
	return found
})

// A proof is a statement and a sequent of which it is one.
type proof struct {
	s           string
	left, right []string
}

// proofOf gives the free names of a statement of at most 12 the names of formulas, in order.
func (p typedProgram) proofOf() (proof, bool) {
	y := p.ownTyping()
	if len(y.Names) > 12 {
		return proof{}, false
	}
	made := proof{s: p.text}
	// All names are others ahead of this, so that none of them is named twice.
	for i, name := range y.Names {
		made.s = putText(made.s, name, name[:1]+strconv.Itoa(900+i))
	}
	for i, name := range y.Names {
		by := "x" + strconv.Itoa(len(made.left))
		if name[0] < 'x' {
			by = "k" + strconv.Itoa(len(made.right))
			made.right = append(made.right, y.Types[i])
		} else {
			made.left = append(made.left, y.Types[i])
		}
		made.s = putText(made.s, name[:1]+strconv.Itoa(900+i), by)
	}
	return made, true
}

// someProofs are those that are found, and statements of other shapes, in which much is cut.
var someProofs = sync.OnceValue(func() []proof {
	var some []proof
	for i, g := range goals() {
		if g.proof != "" && i%3 == 0 {
			some = append(some, proof{g.proof, g.left, g.right})
		}
	}
	m := &maker{state: 82}
	for _, p := range append(m.typedStatements(300, 3), m.typedStatements(100, 5)...) {
		if made, ok := p.proofOf(); ok {
			some = append(some, made)
		}
	}
	for _, c := range statementCases {
		if c.is {
			some = append(some, c.proof())
		}
	}
	return some
})

// proves tells whether Prove succeeds.
func proves(left []string, right []string) bool {
	_, ok := impl.Prove(left, right)
	return ok
}
