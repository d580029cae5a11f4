package impl

import "strings"

// TextMax is the greatest number of bytes of a text.
const TextMax = 6000

// FormulaMax is the greatest number of atoms of a formula.
const FormulaMax = 60

const (
	nestMax    = 200 // parentheses within each other
	sequentMax = 12  // formulas of a sequent, both sides together
	validMax   = 10  // letters of a sequent of which all assignments are tried
)

// A part is an atom or, if that is empty, the parts between two parentheses.
type part struct {
	atom  string
	parts []part
}

// readText reads a text of any chapter: what its atoms stand for is left to the caller.
func readText(s string) (part, bool) {
	if len(s) > TextMax {
		return part{}, false
	}
	p, rest, ok := readPart(s, nestMax)
	if !ok || rest != "" {
		return part{}, false
	}
	return p, true
}

// readPart reads the part at the beginning of s, with at most so many parentheses within each other, and returns what is behind it.
func readPart(s string, nest int) (part, string, bool) {
	if !strings.HasPrefix(s, "(") {
		n := atomLength(s)
		return part{atom: s[:n]}, s[n:], n > 0
	}
	if nest == 0 {
		return part{}, "", false
	}
	var inner []part
	for {
		// What stands ahead of each inner part is one byte: the parenthesis, and then a space.
		p, rest, ok := readPart(s[1:], nest-1)
		if !ok {
			return part{}, "", false
		}
		inner = append(inner, p)
		if strings.HasPrefix(rest, ")") {
			return part{parts: inner}, rest[1:], true
		}
		if !strings.HasPrefix(rest, " ") {
			return part{}, "", false
		}
		s = rest
	}
}

// atomLength returns how many bytes at the beginning of s an atom may have.
func atomLength(s string) int {
	n := 0
	for n < len(s) && isAtomByte(s[n]) {
		n++
	}
	return n
}

func isAtomByte(b byte) bool {
	return isSmallLetter(b) || isDigit(b) || b == '*' || b == '+' || b == '-'
}

func isSmallLetter(b byte) bool {
	return 'a' <= b && b <= 'z'
}

func isDigit(b byte) bool {
	return '0' <= b && b <= '9'
}

// isLetter reports whether an atom is a letter of a formula.
func isLetter(atom string) bool {
	if len(atom) < 1 || len(atom) > 3 || !isSmallLetter(atom[0]) {
		return false
	}
	return allDigits(atom[1:])
}

func allDigits(s string) bool {
	for i := range len(s) {
		if !isDigit(s[i]) {
			return false
		}
	}
	return true
}

// A formula has one type for letters and one for each sign.
type formula interface {
	text() string
	size() int
	holds(truths map[string]bool) bool
	dual() formula
}

type letter string

type conjunction struct {
	left, right formula
}

type disjunction struct {
	left, right formula
}

type opposite struct {
	inner formula
}

func (f letter) text() string      { return string(f) }
func (f conjunction) text() string { return "(* " + f.left.text() + " " + f.right.text() + ")" }
func (f disjunction) text() string { return "(+ " + f.left.text() + " " + f.right.text() + ")" }
func (f opposite) text() string    { return "(- " + f.inner.text() + ")" }

func (f letter) size() int      { return 1 }
func (f conjunction) size() int { return 1 + f.left.size() + f.right.size() }
func (f disjunction) size() int { return 1 + f.left.size() + f.right.size() }
func (f opposite) size() int    { return 1 + f.inner.size() }

func (f letter) holds(truths map[string]bool) bool { return truths[string(f)] }

func (f conjunction) holds(truths map[string]bool) bool {
	return f.left.holds(truths) && f.right.holds(truths)
}

func (f disjunction) holds(truths map[string]bool) bool {
	return f.left.holds(truths) || f.right.holds(truths)
}

func (f opposite) holds(truths map[string]bool) bool { return !f.inner.holds(truths) }

func (f letter) dual() formula      { return f }
func (f conjunction) dual() formula { return disjunction{f.left.dual(), f.right.dual()} }
func (f disjunction) dual() formula { return conjunction{f.left.dual(), f.right.dual()} }
func (f opposite) dual() formula    { return opposite{f.inner.dual()} }

// readFormula returns the formula that a text is.
func readFormula(s string) (formula, bool) {
	p, ok := readText(s)
	if !ok {
		return nil, false
	}
	f, ok := makeFormula(p)
	if !ok || f.size() > FormulaMax {
		return nil, false
	}
	return f, true
}

// makeFormula leaves the size to readFormula, which sees the whole.
func makeFormula(p part) (formula, bool) {
	switch len(p.parts) {
	case 0:
		if isLetter(p.atom) {
			return letter(p.atom), true
		}
	case 2:
		inner, ok := makeFormula(p.parts[1])
		if ok && p.parts[0].atom == "-" {
			return opposite{inner}, true
		}
	case 3:
		return makePair(p.parts[0].atom, p.parts[1], p.parts[2])
	}
	return nil, false
}

func makePair(sign string, left part, right part) (formula, bool) {
	a, okLeft := makeFormula(left)
	b, okRight := makeFormula(right)
	if !okLeft || !okRight {
		return nil, false
	}
	switch sign {
	case "*":
		return conjunction{a, b}, true
	case "+":
		return disjunction{a, b}, true
	}
	return nil, false
}

// writeFormula returns the text of f, unless what was made exceeds the limit and so is no formula.
func writeFormula(f formula) (string, bool) {
	if f.size() > FormulaMax {
		return "", false
	}
	return f.text(), true
}

// addLetters adds the letters of f that are not yet among found behind it.
func addLetters(found []string, f formula) []string {
	switch g := f.(type) {
	case letter:
		for _, name := range found {
			if name == string(g) {
				return found
			}
		}
		return append(found, string(g))
	case conjunction:
		return addLetters(addLetters(found, g.left), g.right)
	case disjunction:
		return addLetters(addLetters(found, g.left), g.right)
	case opposite:
		return addLetters(found, g.inner)
	}
	return found
}

// push moves each not of f inwards, to the letters.
func push(f formula) formula {
	switch g := f.(type) {
	case conjunction:
		return conjunction{push(g.left), push(g.right)}
	case disjunction:
		return disjunction{push(g.left), push(g.right)}
	case opposite:
		return pushOpposite(g.inner)
	}
	return f
}

// pushOpposite does as push for the opposite of f.
func pushOpposite(f formula) formula {
	switch g := f.(type) {
	case conjunction:
		return disjunction{pushOpposite(g.left), pushOpposite(g.right)}
	case disjunction:
		return conjunction{pushOpposite(g.left), pushOpposite(g.right)}
	case opposite:
		return push(g.inner)
	}
	return opposite{f}
}

// truthsOf makes the letters of an assignment quick to find.
func truthsOf(letters []string) map[string]bool {
	truths := map[string]bool{}
	for _, name := range letters {
		truths[name] = true
	}
	return truths
}

// FormulaValid reports whether a text is a formula.
func FormulaValid(s string) bool {
	_, ok := readFormula(s)
	return ok
}

// FormulaLetters returns the letters of a formula in the order in which each one stands first, and true.
func FormulaLetters(s string) ([]string, bool) {
	f, ok := readFormula(s)
	if !ok {
		return nil, false
	}
	return addLetters(nil, f), true
}

// FormulaSize returns the number of atoms of a formula, or -1 if the text is none.
func FormulaSize(s string) int {
	f, ok := readFormula(s)
	if !ok {
		return -1
	}
	return f.size()
}

// FormulaHolds reports whether a text is a formula that holds in an assignment (texts in it that are no letters do not matter).
func FormulaHolds(s string, letters []string) bool {
	f, ok := readFormula(s)
	return ok && f.holds(truthsOf(letters))
}

// FormulaDual returns the formula with * for + and + for * everywhere, and true.
func FormulaDual(s string) (string, bool) {
	f, ok := readFormula(s)
	if !ok {
		return "", false
	}
	return f.dual().text(), true
}

// FormulaPush returns the formula in which - stands just ahead of letters, at most once, that holds in the same assignments, made by moving each - inwards.
func FormulaPush(s string) (string, bool) {
	f, ok := readFormula(s)
	if !ok {
		return "", false
	}
	// A not ahead of many letters becomes one ahead of each of them, so the result may be too large.
	return writeFormula(push(f))
}

// A sequent has formulas on the left and on the right.
type sequent struct {
	left, right []formula
}

func readSequent(left []string, right []string) (sequent, bool) {
	if len(left)+len(right) > sequentMax {
		return sequent{}, false
	}
	onLeft, okLeft := readFormulas(left)
	onRight, okRight := readFormulas(right)
	if !okLeft || !okRight {
		return sequent{}, false
	}
	return sequent{onLeft, onRight}, true
}

func readFormulas(texts []string) ([]formula, bool) {
	var formulas []formula
	for _, s := range texts {
		f, ok := readFormula(s)
		if !ok {
			return nil, false
		}
		formulas = append(formulas, f)
	}
	return formulas, true
}

// letters returns those of all formulas in the order in which each one stands first.
func (q sequent) letters() []string {
	var found []string
	for _, f := range q.left {
		found = addLetters(found, f)
	}
	for _, f := range q.right {
		found = addLetters(found, f)
	}
	return found
}

func (q sequent) holds(truths map[string]bool) bool {
	for _, f := range q.left {
		if !f.holds(truths) {
			return true
		}
	}
	for _, f := range q.right {
		if f.holds(truths) {
			return true
		}
	}
	return false
}

// firstFailure returns the first assignment of the letters in which q does not hold.
func (q sequent) firstFailure(letters []string) ([]string, bool) {
	for bits := range 1 << len(letters) {
		chosen := chooseLetters(letters, bits)
		if !q.holds(truthsOf(chosen)) {
			return chosen, true
		}
	}
	return nil, false
}

// chooseLetters takes the first letter for the lowest bit, so that it changes fastest from one number to the next.
func chooseLetters(letters []string, bits int) []string {
	var chosen []string
	for i, name := range letters {
		if bits>>i&1 == 1 {
			chosen = append(chosen, name)
		}
	}
	return chosen
}

// SequentHolds reports whether two lists are a sequent that holds in an assignment.
func SequentHolds(left []string, right []string, letters []string) bool {
	q, ok := readSequent(left, right)
	return ok && q.holds(truthsOf(letters))
}

// SequentValid reports whether two lists are a sequent that is valid.
func SequentValid(left []string, right []string) bool {
	q, ok := readSequent(left, right)
	if !ok {
		return false
	}
	letters := q.letters()
	if len(letters) > validMax {
		return false
	}
	_, fails := q.firstFailure(letters)
	return !fails
}

// SequentFails returns the first assignment in which a sequent does not hold, and true.
func SequentFails(left []string, right []string) ([]string, bool) {
	q, ok := readSequent(left, right)
	if !ok {
		return nil, false
	}
	letters := q.letters()
	if len(letters) > validMax {
		return nil, false
	}
	return q.firstFailure(letters)
}
