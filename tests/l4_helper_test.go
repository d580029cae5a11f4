package tests

import (
	"slices"
	"strings"
)

// kinds are both kinds of steps, each one with the other one.
var kinds = map[string]string{"value": "name", "name": "value"}

// valueText tells from the text of a program whether it is a value.
func valueText(s string) bool {
	if !strings.HasPrefix(s, "(") {
		return s[0] >= 'x'
	}
	parts := textParts(s)
	switch parts[0] {
	case "pair":
		return valueText(parts[1]) && valueText(parts[2])
	case "inl", "inr":
		return valueText(parts[1])
	}
	return parts[0] == "not"
}

// partOut cuts a part of a term against a new variable that stands for it. No text has a variable n.
func partOut(term []string, i int, k string) string {
	rest := slices.Clone(term)
	rest[i] = "n"
	return "(cut " + term[i] + " (tmu n (cut (" + strings.Join(rest, " ") + ") " + k + ")))"
}

// The ends of a step: how the texts of a value and of a coterm meet, told by their heads.
var meetings = map[string]func(m, k []string) string{
	"pair fst": func(m, k []string) string { return "(cut " + m[1] + " " + k[1] + ")" },
	"pair snd": func(m, k []string) string { return "(cut " + m[2] + " " + k[1] + ")" },
	"inl case": func(m, k []string) string { return "(cut " + m[1] + " " + k[1] + ")" },
	"inr case": func(m, k []string) string { return "(cut " + m[1] + " " + k[2] + ")" },
	"not neg":  func(m, k []string) string { return "(cut " + k[1] + " " + m[1] + ")" },
}

// valueStep tells from the text of a statement what is behind its step by value, canonical but for its size, and by which rule; no rule if it is stuck.
func valueStep(s string) (string, string) {
	parts := textParts(s)
	m, k := parts[1], parts[2]
	term, coterm := []string{m}, []string{k}
	if strings.HasPrefix(m, "(") {
		term = textParts(m)
	}
	if strings.HasPrefix(k, "(") {
		coterm = textParts(k)
	}
	if term[0] == "mu" {
		return putText(term[2], term[1], k), "mu"
	}
	if term[0] != "not" {
		for i, part := range term[1:] {
			if !valueText(part) {
				return canonOfText(partOut(term, 1+i, k)), term[0] + string(rune('1'+i))
			}
		}
	}
	if coterm[0] == "tmu" {
		return putText(coterm[2], coterm[1], m), "tmu"
	}
	meet := term[0] + " " + coterm[0]
	if meetings[meet] == nil {
		return "", ""
	}
	return canonOfText(meetings[meet](term, coterm)), meet
}

// stepText tells what is behind a step of a kind: by name the dual of that by value of the dual.
func stepText(kind string, s string) (string, string) {
	if kind == "value" {
		return valueStep(s)
	}
	dual, rule := valueStep(dualText(s))
	if rule == "" {
		return "", ""
	}
	return canonOfText(dualText(dual)), rule
}

// A run is what steps come to.
type run struct {
	end   string
	steps int
	stuck bool
}

// runText tells where at most n steps come to that lead to programs.
func runText(kind string, s string, n int) run {
	r := run{end: s}
	for {
		next, rule := stepText(kind, r.end)
		if rule == "" {
			r.stuck = true
		}
		if rule == "" || r.steps == n || programKind(next) == "" {
			return r
		}
		r = run{end: next, steps: r.steps + 1}
	}
}

// canonOfText tells from a text what the canonical program is.
func canonOfText(s string) string {
	return canonText(tokenText.FindAllString(s, -1))
}

// statementsOnly leaves out programs of other kinds.
func statementsOnly(texts []string) []string {
	return slices.DeleteFunc(slices.Clone(texts), func(s string) bool { return programKind(s) != "statement" })
}

// typedStatements makes statements that have types.
func (m *maker) typedStatements(count int, deep int) []typedProgram {
	return slices.DeleteFunc(m.typedPrograms(3*count, deep), func(p typedProgram) bool { return p.whole != "" })
}

// reducible are many statements, most of which have steps.
func reducible() []string {
	var some []string
	for _, c := range append(valueRules, nameRules...) {
		some = append(some, c.s)
	}
	for s := range stuckStatements {
		some = append(some, s)
	}
	slices.Sort(some)
	some = append(some, statementsOnly(somePrograms())...)
	m := &maker{state: 41}
	for _, p := range append(m.typedStatements(300, 4), m.typedStatements(100, 6)...) {
		some = append(some, p.text)
	}
	for range 300 {
		some = append(some, m.program("statement", 4))
	}
	return append(some, endless()...)
}

// unready makes a pair of so many variables, none of which is a value yet.
func unready(count int) string {
	return tree("pair", slices.Repeat([]string{"(mu k (cut x k))"}, count))
}

// delayed puts a statement behind so many steps by value, and as many by name.
func delayed(steps int, s string) string {
	for range steps {
		s = "(cut (mu m9 " + s + ") m)"
	}
	return s
}

const (
	// What is not goes on with itself.
	itself  = "(not (tmu x (cut x (neg x))))"
	forever = "(cut " + itself + " (neg " + itself + "))"
	// What is not goes on with itself and one pair more, or one inl more.
	growing  = "(not (tmu y (cut y (fst (tmu x (cut x (neg (pair x y))))))))"
	grows    = "(cut " + growing + " (neg (pair " + growing + " z)))"
	nesting1 = "(not (tmu z (cut z (fst (tmu x (cut z (snd (tmu y (cut x (neg (pair x (inl y))))))))))))"
	nests    = "(cut " + nesting1 + " (neg (pair " + nesting1 + " z)))"
	// By name the coterm goes first, and all that goes on for ever is forgotten.
	foreverByValue = "(cut (mu k " + forever + ") (tmu y (cut z m)))"
)

// endless are statements that do not come to a stuck one by value or by name.
func endless() []string {
	var some []string
	for _, s := range []string{forever, grows, nests, foreverByValue} {
		some = append(some, s, dualText(s))
	}
	return some
}
