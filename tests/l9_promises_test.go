package tests

import (
	"slices"
	"strings"
	"testing"

	"loop.example/classicalcontrol/impl"
)

// partsOf are both sides of a statement.
func partsOf(t *testing.T, s string) (string, string) {
	t.Helper()
	m, k, ok := impl.CutParts(s)
	if !ok {
		t.Fatalf("CutParts of %q fails", s)
	}
	return m, k
}

func TestPromise63(t *testing.T) {
	m := &maker{state: 95}
	some := slices.Concat(reducible(), m.unused(200, 3))
	for _, p := range m.typedStatements(400, 4) {
		some = append(some, p.text)
	}
	typed, untyped := map[string]int{}, 0
	for _, from := range some {
		for kind := range kinds {
			s := from
			// What steps come to is stuck more often than what they come from.
			if end, _, ok := impl.RunOf(kind, from); ok {
				s = end
			}
			if !impl.StuckIs(kind, s) {
				continue
			}
			if next, ok := impl.StepOf(kind, s); ok || next != "" {
				t.Errorf("%q is stuck by %s, but steps to %q", s, kind, next)
			}
			term, coterm := partsOf(t, s)
			names := nameText.MatchString(term) || nameText.MatchString(coterm)
			if !impl.TypeIs(s) {
				if !names {
					untyped++
				}
				continue
			}
			typed[kind]++
			if !names {
				t.Errorf("%q is stuck by %s, and no side is a name", s, kind)
			}
		}
	}
	if typed["value"] < 500 || typed["name"] < 500 || untyped < 20 {
		t.Errorf("just %v with types, and %d without and without a name", typed, untyped)
	}
}

func TestPromise64(t *testing.T) {
	m := &maker{state: 96}
	some := slices.Concat(statementsOnly(somePrograms()), m.unused(200, 3), []string{forever, grows, nests})
	for _, c := range choices {
		some = append(some, c[0], c[1])
	}
	done, differ := 0, 0
	for i, a := range some {
		for _, b := range []string{some[m.below(len(some))], some[(i+1)%len(some)], a, dualOf(t, a)} {
			s, ok := impl.Choice(a, b)
			if ok != (choiceText(a, b) != "") {
				t.Errorf("Choice of %q and %q: %v", a, b, ok)
			}
			if !ok {
				continue
			}
			done++
			value, okValue := impl.StepOf("value", s)
			name, okName := impl.StepOf("name", s)
			if !okValue || !okName || !impl.ProgramAlike(value, a) || !impl.ProgramAlike(name, b) || value != canonOf(t, a) || name != canonOf(t, b) {
				t.Errorf("the choice of %q and %q steps to %q by value, and to %q by name", a, b, value, name)
			}
			if canonOf(t, s) != s || !slices.Equal(freeOf(t, s), once(append(freeOf(t, a), freeOf(t, b)...))) {
				t.Errorf("the choice of %q and %q is %q, not canonical or with other free names", a, b, s)
			}
			// The orders differ just as the ends do.
			end, _, okEnd := impl.RunOf("value", value)
			other, _, okOther := impl.RunOf("name", name)
			_, _, okRuns := impl.StepBoth(s)
			if okRuns && impl.OrdersDiffer(s) != (okEnd && okOther && end != other) {
				t.Errorf("OrdersDiffer of %q: %v, the ends are %q and %q", s, impl.OrdersDiffer(s), end, other)
			}
			if impl.OrdersDiffer(s) {
				differ++
			}
		}
	}
	if done < 800 || differ < 400 {
		t.Errorf("just %d choices, and orders of %d differ", done, differ)
	}
}

func TestPromise65(t *testing.T) {
	m := &maker{state: 97}
	some := append(somePrograms(), m.programs(300, 4)...)
	for _, p := range m.typedPrograms(600, 4) {
		some = append(some, p.text)
	}
	some = append(some, sized("x0", 496), sized("k0", 496), deepened("x", 198), deepened("k", 198))
	counts := map[string]int{}
	typed := 0
	for _, s := range some {
		kind := impl.ProgramKind(s)
		long, ok := impl.LongForm(s)
		if !ok {
			continue
		}
		counts[kind]++
		if kind == "statement" || impl.ProgramKind(long) != kind || canonOf(t, long) != long {
			t.Errorf("the long form of %q, a %s, is %q", s, kind, long)
		}
		ofDual, okDual := impl.LongForm(dualOf(t, s))
		if dual := dualOf(t, long); !okDual || !impl.ProgramAlike(dual, ofDual) || canonOf(t, dual) != ofDual {
			t.Errorf("the long form of the dual of %q is %q, not the dual of %q", s, ofDual, long)
		}
		y, okType := impl.TypeOf(s)
		z, okLong := impl.TypeOf(long)
		if okType != okLong || !sameTyping(y, z) {
			t.Errorf("TypeOf of %q: %q, %v, and of its long form %q, %v", s, y, okType, z, okLong)
		}
		if okType {
			typed++
		}
	}
	if counts["term"] < 300 || counts["coterm"] < 300 || typed < 300 {
		t.Errorf("just %v, %d with types", counts, typed)
	}
}

// inPlace is the statement with another term or coterm in place of its own, if it is one.
func inPlace(t *testing.T, s string, by string) (string, bool) {
	t.Helper()
	m, k := partsOf(t, s)
	if impl.ProgramKind(by) == "term" {
		return impl.CutMake(by, k)
	}
	return impl.CutMake(m, by)
}

// sameInPlace reports whether a meaning is told of the statement with another part in its place, and whether it is the same.
func sameInPlace(t *testing.T, a asked, by string, ok bool) (bool, bool) {
	t.Helper()
	other, okOther := inPlace(t, a.s, by)
	if !ok || !okOther {
		return false, false
	}
	want, _ := a.bit()
	got, known := a.behind(other).bit()
	return known, got == want
}

// A formAsk asks for the meaning with the longer form of one side in its place, where it must be the same, or may be another.
type formAsk struct {
	form string
	term bool
	must func(m string) bool
}

// checkMeanings holds what is meant with longer forms against what is meant without, and tells how often both were told, and how often they differ.
func checkMeanings(t *testing.T, ask formAsk) (int, int) {
	t.Helper()
	told, differ := 0, 0
	for _, a := range meant() {
		m, k := partsOf(t, a.s)
		side := map[bool]string{true: m, false: k}[ask.term]
		longer, ok := longerForms[ask.form](side)
		known, same := sameInPlace(t, a, longer, ok)
		switch {
		case !known:
		case ask.must(side):
			told++
			if !same {
				t.Errorf("MeanBit of %q with %q and %d at %v is not that with the %s form of %q", a.s, a.types, a.n, a.values, ask.form, side)
			}
		case !same:
			differ++
		}
	}
	return told, differ
}

func always(string) bool { return true }

func TestPromise66(t *testing.T) {
	for _, term := range []bool{true, false} {
		if told, _ := checkMeanings(t, formAsk{"long", term, always}); told < 2000 {
			t.Errorf("just %d statements", told)
		}
	}
}

func TestPromise67(t *testing.T) {
	for _, form := range []string{"pair", "not"} {
		told, differ := checkMeanings(t, formAsk{form, true, impl.ValueIs})
		// Pair forms of what is no value are another thing seldom; see TestMeaningsOfLongerForms.
		if told < 200 || form == "not" && differ == 0 {
			t.Errorf("just %d statements with a value and its %s form; %d of no value differ", told, form, differ)
		}
	}
}

func TestPromise68(t *testing.T) {
	if told, _ := checkMeanings(t, formAsk{"pair", false, always}); told < 300 {
		t.Errorf("just %d statements", told)
	}
}

func TestPromise69(t *testing.T) {
	m := &maker{state: 98}
	some := slices.Concat(somePrograms(), m.programs(400, 4), []string{sized("x0", 244), sized("k0", 244), deepened("x", 197), deepened("k", 197)})
	counts := map[string]int{}
	for _, s := range some {
		pair, ok := impl.PairForm(s)
		ofDual, okDual := impl.PairForm(dualOf(t, s))
		if ok != okDual {
			t.Errorf("PairForm of %q: %v, and of its dual %v", s, ok, okDual)
		}
		if !ok {
			continue
		}
		counts[impl.ProgramKind(s)]++
		if dual := dualOf(t, pair); !impl.ProgramAlike(dual, ofDual) || canonOf(t, dual) != ofDual || canonOf(t, pair) != pair {
			t.Errorf("PairForm of the dual of %q: %q, not the dual of %q", s, ofDual, pair)
		}
		if head := map[string]string{"term": "(pair (mu ", "coterm": "(case (tmu "}[impl.ProgramKind(s)]; head == "" || !strings.HasPrefix(pair, head) {
			t.Errorf("PairForm of %q: %q", s, pair)
		}
	}
	if counts["term"] < 200 || counts["coterm"] < 200 || counts["statement"] > 0 {
		t.Errorf("just %v", counts)
	}
}

func TestPromise70(t *testing.T) {
	m := &maker{state: 99}
	some := append(someTerms(), somePrograms()...)
	for _, p := range m.typedPrograms(900, 3) {
		some = append(some, p.text)
	}
	some = append(some, sized("x0", 494), deepened("x", 197), "x", "(not k)", "(not (fst k0))")
	done, typed := 0, 0
	for _, s := range some {
		not, ok := impl.NotForm(s)
		if ok && programKind(s) != "term" {
			t.Errorf("%q has the not form %q", s, not)
		}
		if !ok {
			continue
		}
		done++
		if !impl.ValueIs(not) || !strings.HasPrefix(not, "(not (tmu ") || canonOf(t, not) != not {
			t.Errorf("the not form of %q is %q, no value or not canonical", s, not)
		}
		y, ok := impl.TypeOf(not)
		if !ok {
			continue
		}
		typed++
		if parts := textParts(y.Type); len(parts) != 2 || parts[0] != "-" || !impl.FormulaValid(parts[1]) {
			t.Errorf("the not form of %q has the type %q", s, y.Type)
		}
		if own, ok := impl.TypeOf(s); !ok || !impl.TypeInstance(own, y) {
			t.Errorf("%q is of %q, and its not form of %q", s, own, y)
		}
	}
	if done < 800 || typed < 100 {
		t.Errorf("just %d not forms, %d with types", done, typed)
	}
}

func TestPromise71(t *testing.T) {
	m := &maker{state: 100}
	some := slices.Concat(reducible(), m.unused(200, 3))
	for s := range differCases {
		some = append(some, s)
	}
	holds, same, fails := 0, 0, 0
	for _, s := range some {
		value, _, okValue := impl.RunOf("value", s)
		name, _, okName := impl.RunOf("name", s)
		got := impl.OrdersDiffer(s)
		if got != (okValue && okName && value != name && !impl.ProgramAlike(value, name)) {
			t.Errorf("OrdersDiffer of %q: %v, the ends are %q, %v, and %q, %v", s, got, value, okValue, name, okName)
		}
		if impl.ProgramKind(s) != "" && impl.OrdersDiffer(dualOf(t, s)) != got {
			t.Errorf("OrdersDiffer of %q: %v, but not of its dual", s, got)
		}
		switch {
		case got:
			holds++
		case okValue && okName:
			same++
		default:
			fails++
		}
	}
	if holds < 300 || same < 300 || fails < 10 {
		t.Errorf("just %d hold, %d have the same end, and %d have none", holds, same, fails)
	}
}

func TestPromise72(t *testing.T) {
	done := 0
	for _, s := range slices.Concat(somePrograms(), reducible(), []string{forever, grows, nests, foreverByValue}) {
		m, k, ok := impl.CutParts(s)
		if ok != (impl.ProgramKind(s) == "statement") {
			t.Errorf("CutParts of %q: %v", s, ok)
		}
		if !ok {
			continue
		}
		done++
		if again, ok := impl.CutMake(m, k); !ok || again != s || impl.ProgramKind(m) != "term" || impl.ProgramKind(k) != "coterm" {
			t.Errorf("CutMake of %q and %q, the parts of %q: %q, %v", m, k, s, again, ok)
		}
	}
	if done < 500 {
		t.Errorf("just %d statements", done)
	}
}

func TestPromise73(t *testing.T) {
	m := &maker{state: 101}
	some := append(somePrograms(), sized("x", 249), sized("k", 250), deepened("x", 199), deepened("k", 199))
	done, fails := 0, 0
	for _, a := range some {
		for _, b := range []string{some[m.below(len(some))], some[m.below(len(some))], "k0", "x", dualOf(t, a)} {
			s, ok := impl.CutMake(a, b)
			if !ok {
				fails++
				continue
			}
			done++
			if term, coterm := partsOf(t, s); term != a || coterm != b || s != "(cut "+a+" "+b+")" {
				t.Errorf("CutMake of %q and %q: %q, with the parts %q and %q", a, b, s, term, coterm)
			}
		}
	}
	if done < 200 || fails < 200 {
		t.Errorf("just %d statements, and %d that are none", done, fails)
	}
}

func TestPromise74(t *testing.T) {
	done, again := 0, 0
	for _, f := range somethingValid() {
		term, ok := impl.ProveTerm(f)
		if !ok {
			continue
		}
		s, ok := impl.CutMake(term, "m9")
		if !ok {
			continue
		}
		end, _, ok := impl.RunOf("value", s)
		if !ok {
			continue
		}
		done++
		value, against := partsOf(t, end)
		if against != "m9" || !impl.ValueIs(value) || !impl.TypeHas(value, []string{"m9"}, []string{f}, f) {
			t.Errorf("the term of %q comes to %q against %q", f, value, against)
		}
		if impl.ProgramUses(value, "m9") > 0 {
			again++
		}
	}
	if done < 600 || again < 300 {
		t.Errorf("just %d terms, %d with m9 in the value", done, again)
	}
}
