package tests

import (
	"regexp"
	"slices"
	"strconv"
	"strings"
)

// A maker makes the same formulas in every run of the tests.
type maker struct {
	state uint64
}

func (m *maker) below(n int) int {
	m.state = m.state*6364136223846793005 + 1442695040888963407
	return int(m.state>>33) % n
}

// formula makes a formula of just so many atoms with letters out of names.
func (m *maker) formula(atoms int, names []string) string {
	if atoms == 1 {
		return names[m.below(len(names))]
	}
	if atoms == 2 || m.below(4) == 0 {
		return "(- " + m.formula(atoms-1, names) + ")"
	}
	left := 1 + m.below(atoms-2)
	sign := []string{"*", "+"}[m.below(2)]
	return "(" + sign + " " + m.formula(left, names) + " " + m.formula(atoms-1-left, names) + ")"
}

// formulas makes many formulas of up to so many atoms.
func (m *maker) formulas(count int, atoms int, names []string) []string {
	var made []string
	for range count {
		made = append(made, m.formula(1+m.below(atoms), names))
	}
	return made
}

// assignment makes a list of some of the names.
func (m *maker) assignment(names []string) []string {
	var chosen []string
	for _, name := range names {
		if m.below(2) == 0 {
			chosen = append(chosen, name)
		}
	}
	return chosen
}

// assignments returns all of them for the names, the first name changing fastest.
func assignments(names []string) [][]string {
	all := [][]string{nil}
	for _, name := range names {
		for _, chosen := range slices.Clone(all) {
			all = append(all, append(slices.Clone(chosen), name))
		}
	}
	return all
}

// others returns the names that are not among the chosen ones.
func others(names []string, chosen []string) []string {
	var rest []string
	for _, name := range names {
		if !slices.Contains(chosen, name) {
			rest = append(rest, name)
		}
	}
	return rest
}

var (
	atomText   = regexp.MustCompile(`[a-z0-9*+-]+`)
	letterText = regexp.MustCompile(`[a-z][0-9]*`)
	wholeAtom  = regexp.MustCompile(`^[a-z][0-9]{0,2}$`)
	smallest   = regexp.MustCompile(`\(- F\)|\([*+] F F\)`)
	notAhead   = regexp.MustCompile(`\(- \(`)
)

// isFormula tells by rewriting the text, without a tree, whether it is a formula.
func isFormula(s string) bool {
	if len(atomText.FindAllString(s, -1)) > 60 || strings.ContainsAny(s, "F") {
		return false
	}
	s = atomText.ReplaceAllStringFunc(s, func(atom string) string {
		if wholeAtom.MatchString(atom) {
			return "F"
		}
		return atom
	})
	for {
		shorter := smallest.ReplaceAllString(s, "F")
		if shorter == s {
			return s == "F"
		}
		s = shorter
	}
}

var sums = strings.NewReplacer("(- 0)", "1", "(- 1)", "0",
	"(* 0 0)", "0", "(* 0 1)", "0", "(* 1 0)", "0", "(* 1 1)", "1",
	"(+ 0 0)", "0", "(+ 0 1)", "1", "(+ 1 0)", "1", "(+ 1 1)", "1")

// formulaHolds tells by rewriting the text of a formula whether it holds.
func formulaHolds(s string, letters []string) bool {
	s = letterText.ReplaceAllStringFunc(s, func(name string) string {
		if slices.Contains(letters, name) {
			return "1"
		}
		return "0"
	})
	for strings.Contains(s, "(") {
		s = sums.Replace(s)
	}
	return s == "1"
}

// formulaLetters tells from the text of a formula what its letters are.
func formulaLetters(texts ...string) []string {
	var found []string
	for _, name := range letterText.FindAllString(strings.Join(texts, " "), -1) {
		if !slices.Contains(found, name) {
			found = append(found, name)
		}
	}
	return found
}

// sequentHolds tells of a sequent whether it holds.
func sequentHolds(left []string, right []string, letters []string) bool {
	for _, f := range left {
		if !formulaHolds(f, letters) {
			return true
		}
	}
	for _, f := range right {
		if formulaHolds(f, letters) {
			return true
		}
	}
	return false
}

// duals swaps both signs in each text.
func duals(texts []string) []string {
	var swapped []string
	for _, s := range texts {
		swapped = append(swapped, strings.NewReplacer("*", "+", "+", "*").Replace(s))
	}
	return swapped
}

// chain joins the parts by a sign: (* a (* b c)).
func chain(sign string, parts []string) string {
	s := parts[len(parts)-1]
	for i := len(parts) - 2; i >= 0; i-- {
		s = "(" + sign + " " + parts[i] + " " + s + ")"
	}
	return s
}

// nots puts so many nots around a text.
func nots(count int, s string) string {
	return strings.Repeat("(- ", count) + s + strings.Repeat(")", count)
}

// numbered returns count letters of 2 or 3 bytes, no two of them equal.
func numbered(count int) []string {
	var names []string
	for i := range count {
		names = append(names, string(rune('a'+i%26))+strconv.Itoa(i/26))
	}
	return names
}
