package tests

import (
	"slices"
	"strings"

	"loop.example/classicalcontrol/impl"
)

// longerTexts are the longer forms of terms and coterms, with P for the program, and n, which is no name, for what is bound.
var longerTexts = map[string]map[string]string{
	"long": {"term": "(mu n (cut P n))", "coterm": "(tmu n (cut n P))"},
	"pair": {"term": "(pair (mu n (cut P (fst n))) (mu n (cut P (snd n))))", "coterm": "(case (tmu n (cut (inl n) P)) (tmu n (cut (inr n) P)))"},
	"not":  {"term": "(not (tmu n (cut P (neg n))))"},
}

// longerForms are the functions for them.
var longerForms = map[string]func(string) (string, bool){"long": impl.LongForm, "pair": impl.PairForm, "not": impl.NotForm}

// longerText tells the longer form of a text, or "" if there is none.
func longerText(form string, s string) string {
	pattern := longerTexts[form][programKind(s)]
	if pattern == "" {
		return ""
	}
	return programOnly(canonOfText(strings.ReplaceAll(pattern, "P", s)))
}

// choiceText tells the choice of two texts, or "" if there is none.
func choiceText(a string, b string) string {
	if programKind(a) != "statement" || programKind(b) != "statement" {
		return ""
	}
	return programOnly(canonOfText("(cut (mu n " + a + ") (tmu n " + b + "))"))
}

// madeText tells the statement of two texts as they stand, or "" if there is none.
func madeText(m string, k string) string {
	if programKind(m) != "term" || programKind(k) != "coterm" {
		return ""
	}
	return programOnly("(cut " + m + " " + k + ")")
}

// differText tells whether both runs of a statement end, and not alike.
func differText(s string) bool {
	value, name := runText("value", s, impl.StepsMax), runText("name", s, impl.StepsMax)
	return value.stuck && name.stuck && canonOfText(value.end) != canonOfText(name.end)
}

// pairsOf makes a tree of so many atoms, an odd number, that is not deep.
func pairsOf(head string, name string, atoms int) string {
	return tree(head, slices.Repeat([]string{name}, (atoms+1)/2))
}

// sized makes a term of variables, or a coterm of covariables, of just so many atoms.
func sized(name string, atoms int) string {
	heads := map[bool][2]string{true: {"pair", "inl"}, false: {"case", "snd"}}[name[0] >= 'x']
	if atoms%2 == 0 {
		return "(" + heads[1] + " " + pairsOf(heads[0], name, atoms-1) + ")"
	}
	return pairsOf(heads[0], name, atoms)
}

// deepened makes a term or coterm with just so many parentheses within each other.
func deepened(name string, deep int) string {
	head := map[bool]string{true: "inr", false: "fst"}[name[0] >= 'x']
	return around(deep, "("+head+" ", name, ")")
}

// unused makes statements in which names are bound that do not stand there.
func (m *maker) unused(count int, deep int) []string {
	var made []string
	for range count {
		s, other := m.program("statement", deep), m.program("statement", deep)
		k := others(append(slices.Clone(fewCovariables), "m999"), programFree(s))[0]
		x := others(append(slices.Clone(fewVariables), "z999"), programFree(other))[0]
		switch m.below(4) {
		case 0:
			s = "(cut (mu " + k + " " + s + ") " + m.program("coterm", deep) + ")"
		case 1:
			s = "(cut " + m.program("term", deep) + " (tmu " + x + " " + other + "))"
		default:
			s = "(cut (mu " + k + " " + s + ") (tmu " + x + " " + other + "))"
		}
		if programKind(s) != "" {
			made = append(made, s)
		}
	}
	return made
}
