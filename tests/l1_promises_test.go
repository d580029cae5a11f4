package tests

import (
	"slices"
	"testing"

	"loop.example/classicalcontrol/impl"
)

func TestPromise1(t *testing.T) {
	for _, s := range someFormulas() {
		letters, ok := impl.FormulaLetters(s)
		if !ok || !impl.FormulaValid(s) {
			t.Fatalf("%q is a formula", s)
		}
		holds, not := impl.FormulaHolds(s, letters), "(- "+s+")"
		if impl.FormulaSize(s) < 60 && impl.FormulaHolds(not, letters) == holds || impl.FormulaSize(s) == 60 && impl.FormulaHolds(not, letters) {
			t.Errorf("%q and its opposite are the same for all letters", s)
		}
		if impl.FormulaSize(s) < len(letters) {
			t.Errorf("%q has %d letters and %d atoms", s, len(letters), impl.FormulaSize(s))
		}
	}
}

func TestPromise2(t *testing.T) {
	for _, s := range someFormulas() {
		letters, ok := impl.FormulaLetters(s)
		if !ok || len(letters) == 0 {
			t.Fatalf("FormulaLetters of %q fails", s)
		}
		sorted := slices.Sorted(slices.Values(letters))
		if len(slices.Compact(sorted)) != len(letters) {
			t.Errorf("some of %q are equal", letters)
		}
		for _, more := range []string{"q", "a9", "z90", "c", "k77"} {
			if !slices.Contains(letters, more) && impl.FormulaHolds(s, append(slices.Clone(letters), more)) != impl.FormulaHolds(s, letters) {
				t.Errorf("%q changes by %q", s, more)
			}
		}
	}
}

func TestPromise3(t *testing.T) {
	for _, s := range someFormulas() {
		size := impl.FormulaSize(s)
		dual, _ := impl.FormulaDual(s)
		if size < 1 || impl.FormulaSize(dual) != size {
			t.Errorf("%q has %d atoms, its dual %d", s, size, impl.FormulaSize(dual))
		}
		more := impl.FormulaSize("(- " + s + ")")
		if size < 60 && more != size+1 || size == 60 && more != -1 {
			t.Errorf("%q has %d atoms, its opposite %d", s, size, more)
		}
	}
}

func TestPromise4(t *testing.T) {
	m := &maker{state: 6}
	for _, s := range someFormulas() {
		for range 8 {
			chosen := m.assignment(formulaLetters(s))
			holds := impl.FormulaHolds(s, chosen)
			if impl.SequentHolds(nil, []string{s}, chosen) != holds || impl.SequentHolds([]string{s}, nil, chosen) == holds {
				t.Errorf("%q in %q: FormulaHolds is %v", s, chosen, holds)
			}
		}
	}
}

func TestPromise5(t *testing.T) {
	m := &maker{state: 7}
	for _, s := range someFormulas() {
		dual, ok := impl.FormulaDual(s)
		if !ok || dual != duals([]string{s})[0] {
			t.Errorf("FormulaDual of %q: %q, %v", s, dual, ok)
		}
		if twice, ok := impl.FormulaDual(dual); !ok || twice != s {
			t.Errorf("FormulaDual of %q: %q, %v", dual, twice, ok)
		}
		letters := formulaLetters(s)
		for range 8 {
			// With not it is so, too: both sides of it change alike.
			chosen := m.assignment(letters)
			if impl.FormulaHolds(dual, chosen) == impl.FormulaHolds(s, others(letters, chosen)) {
				t.Errorf("%q and its dual agree for %q and the others", s, chosen)
			}
		}
	}
}

func TestPromise6(t *testing.T) {
	pushed := 0
	for _, s := range someFormulas() {
		push, ok := impl.FormulaPush(s)
		if !ok {
			if impl.FormulaSize(s) < 40 {
				t.Errorf("FormulaPush of %q fails", s)
			}
			continue
		}
		pushed++
		if again, ok := impl.FormulaPush(push); !ok || again != push {
			t.Errorf("FormulaPush of %q: %q, %v", push, again, ok)
		}
		if notAhead.MatchString(push) {
			t.Errorf("a not of %q does not stand ahead of a letter", push)
		}
		if few := len(formulaLetters(s)) <= 10; impl.SequentValid([]string{s}, []string{push}) != few || impl.SequentValid([]string{push}, []string{s}) != few {
			t.Errorf("%q does not hold in the same assignments as %q", push, s)
		}
	}
	if pushed < 150 {
		t.Errorf("just %d formulas are pushed", pushed)
	}
}

func TestPromise7(t *testing.T) {
	m := &maker{state: 8}
	for _, q := range someSequents() {
		chosen := m.assignment(fewNames)
		if len(q[0])+len(q[1]) > 11 || !impl.SequentHolds(q[0], q[1], chosen) {
			continue
		}
		for _, more := range []string{"a", "(- a)", "(* b (- b))", "(+ b (- b))"} {
			if !impl.SequentHolds(append(slices.Clone(q[0]), more), q[1], chosen) || !impl.SequentHolds(q[0], append(slices.Clone(q[1]), more), chosen) {
				t.Errorf("%q holds, but not with %q", q, more)
			}
		}
	}
}

func TestPromise8(t *testing.T) {
	valid := 0
	for _, q := range someSequents() {
		left, right := q[0], q[1]
		if impl.SequentValid(duals(right), duals(left)) != impl.SequentValid(left, right) {
			t.Errorf("%q and its dual are not both valid", q)
		}
		if !impl.SequentValid(left, right) {
			continue
		}
		valid++
		for _, chosen := range assignments(formulaLetters(append(slices.Clone(left), right...)...)) {
			if !impl.SequentHolds(left, right, chosen) {
				t.Errorf("%q is valid, but does not hold in %q", q, chosen)
			}
		}
	}
	if valid < 50 {
		t.Errorf("just %d sequents are valid", valid)
	}
}

func TestPromise9(t *testing.T) {
	failed := 0
	for _, q := range someSequents() {
		letters, ok := impl.SequentFails(q[0], q[1])
		if !ok {
			continue
		}
		failed++
		if impl.SequentHolds(q[0], q[1], letters) || impl.SequentValid(q[0], q[1]) {
			t.Errorf("%q fails in %q, but holds there or is valid", q, letters)
		}
		if sorted := slices.Sorted(slices.Values(letters)); len(slices.Compact(sorted)) != len(letters) {
			t.Errorf("some of %q are equal", letters)
		}
	}
	if failed < 50 {
		t.Errorf("just %d sequents fail", failed)
	}
}
