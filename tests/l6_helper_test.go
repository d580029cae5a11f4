package tests

import (
	"regexp"
	"slices"
	"strings"

	"loop.example/classicalcontrol/impl"
)

var sourceShapes = []string{"(lam v M)", "(lam v M)", "(app M M)", "(both M M)", "(left M)", "(right M)", "(catch c M)", "(throw c M)"}

// source makes a source term whose words are at most so deep.
func (m *maker) source(deep int) string {
	if deep <= 0 || m.below(8) == 0 {
		return m.fill("v", deep)
	}
	return m.fill(sourceShapes[m.below(len(sourceShapes))], deep)
}

// sources makes source terms, of those that are not too large.
func (m *maker) sources(count int, deep int) []string {
	var made []string
	for range count {
		if s := m.source(deep); isSource(s) {
			made = append(made, s)
		}
	}
	return made
}

// fewSources have typings, to compose others of them.
var fewSources = []string{
	"x", "y", "x0", "(lam x x)", "(lam x (lam y x))", "(lam x (both x x))", "(lam z2 (left z2))", "(lam x (both (right x) (left x)))", "(lam x0 (lam x1 (app x0 x1)))", "(lam x y)", "(app y x0)",
	"(catch k (throw k x1))", "(catch k0 (app x (lam x1 (throw k0 x1))))", "(lam x (catch k (app x (lam y (throw k y)))))", "(throw k x)", "(throw k1 (both x y))", "(lam x (throw l x))", "(catch l (both x (throw m2 y)))", "(left (both x (throw k x)))",
}

var compositions = []string{"(lam V M)", "(app M N)", "(app M N)", "(app M V)", "(both M N)", "(left (both M N))", "(right M)", "(catch C M)", "(throw C M)", "(catch C (both M (throw C N)))", "(app (lam V M) N)"}

// composed makes source terms of those that have typings, and of what was made, and so many have one themselves.
func (m *maker) composed(count int) []string {
	some := slices.Clone(fewSources)
	for range count {
		by := strings.NewReplacer("M", some[m.below(len(some))], "N", some[m.below(len(some))], "V", fewVariables[m.below(5)], "C", fewCovariables[m.below(5)])
		if s := by.Replace(compositions[m.below(len(compositions))]); isSource(s) {
			some = append(some, s)
		}
	}
	return some
}

var sourceForm = regexp.MustCompile(`\((lam V [VT]|app [VT] [VT]|both [VT] [VT]|left [VT]|right [VT]|catch C [VT]|throw C [VT])\)`)

// isSource tells by rewriting the text, without a tree, whether it is a source term.
func isSource(s string) bool {
	if len(s) > 6000 || len(atomText.FindAllString(s, -1)) > 80 || nesting(s) > 200 || strings.ContainsAny(s, "VCT") {
		return false
	}
	s = namesAsSigns(s)
	for {
		shorter := sourceForm.ReplaceAllString(s, "T")
		if shorter == s {
			return s == "V" || s == "T"
		}
		s = shorter
	}
}

// sourceFree tells from the text of a source term what is free in it, as often as it stands there.
func sourceFree(s string) []string {
	return programFree(strings.NewReplacer("(lam ", "(tmu ", "(catch ", "(mu ").Replace(s))
}

// The programs of source terms, with 1 and 2 for what stands behind the word, and new for what is no name of theirs.
var sourcePrograms = map[string]string{
	"lam":   "(not (tmu new (cut new (fst (tmu 1 (cut new (snd (neg 2))))))))",
	"app":   "(mu new (cut 1 (neg (pair 2 (not new)))))",
	"both":  "(pair 1 2)",
	"left":  "(mu new (cut 1 (fst new)))",
	"right": "(mu new (cut 1 (snd new)))",
	"catch": "(mu 1 (cut 2 1))",
	"throw": "(mu new (cut 2 1))",
}

// withNew tells from the text of a source term its program, in which new is bound.
func withNew(s string) string {
	if !strings.HasPrefix(s, "(") {
		return s
	}
	parts := textParts(s)
	by := []string{"1", withNew(parts[1])}
	if len(parts) == 3 {
		by = append(by, "2", withNew(parts[2]))
	}
	return strings.NewReplacer(by...).Replace(sourcePrograms[parts[0]])
}

// sourceProgram tells from the text of a source term its canonical program, or "" if this is none.
func sourceProgram(s string) string {
	return programOnly(canonOfText(withNew(s)))
}

// sourceTyping tells from the text of a source term its principal typing.
func sourceTyping(s string) (impl.Typing, bool) {
	p := sourceProgram(s)
	if p == "" {
		return impl.Typing{}, false
	}
	return typingText(p)
}

// notIn returns the first name of a list that is not free in a source term.
func notIn(s string, names []string) string {
	return others(names, sourceFree(s))[0]
}
