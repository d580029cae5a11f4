package tests

import (
	"slices"
	"strings"
	"testing"

	"loop.example/classicalcontrol/impl"
)

func TestPromise41(t *testing.T) {
	done := 0
	for _, s := range append(someSources(), nestedTooMuch()...) {
		if !impl.SourceValid(s) {
			t.Errorf("SourceValid of %q does not hold", s)
		}
		p, ok := impl.SourceProgram(s)
		if !ok {
			continue
		}
		done++
		free, okFree := impl.SourceFree(s)
		inProgram := freeOf(t, p)
		slices.Sort(free)
		slices.Sort(inProgram)
		if !okFree || impl.ProgramKind(p) != "term" || !slices.Equal(free, inProgram) {
			t.Errorf("free in %q are %q, and in its program %q %q", s, free, p, inProgram)
		}
		if canonOf(t, p) != p {
			t.Errorf("%q is not canonical", p)
		}
	}
	if done < 1000 {
		t.Errorf("just %d programs", done)
	}
}

func TestPromise42(t *testing.T) {
	done := 0
	for _, s := range someSources() {
		free, ok := impl.SourceFree(s)
		if !ok || len(once(free)) != len(free) {
			t.Fatalf("SourceFree of %q: %q, %v", s, free, ok)
		}
		for _, n := range free {
			word := "catch"
			if strings.Contains("xyz", n[:1]) {
				word = "lam"
			}
			around := "(" + word + " " + n + " " + s + ")"
			within, ok := impl.SourceFree(around)
			if ok != impl.SourceValid(around) || ok && !slices.Equal(within, others(free, []string{n})) {
				t.Errorf("free in %q are %q, and in %q %q", s, free, around, within)
			}
			if ok {
				done++
			}
		}
	}
	if done < 1000 {
		t.Errorf("just %d names", done)
	}
}

func TestPromise43(t *testing.T) {
	done := 0
	for _, s := range someSources() {
		for _, x := range []string{"x", "x0", "y", "z99"} {
			p, ok := impl.SourceProgram("(lam " + x + " " + s + ")")
			if !ok {
				continue
			}
			done++
			if !impl.ValueIs(p) || !impl.CovalueIs(dualOf(t, p)) || impl.CovalueIs(p) || impl.ValueIs(dualOf(t, p)) {
				t.Errorf("the program %q of lam %s around %q is no value, or its dual no covalue", p, x, s)
			}
		}
	}
	if done < 3000 {
		t.Errorf("just %d programs", done)
	}
}

// ofNewLetter is the typing with the function type of a letter that no type has, and the type, if this is a formula.
func ofNewLetter(y impl.Typing) (impl.Typing, bool) {
	function, ok := impl.FunctionType("z99", y.Type)
	if !ok {
		return impl.Typing{}, false
	}
	put := replaceLetters(impl.Typing{Names: y.Names, Types: y.Types, Type: function}, func(name string) string { return "T" + name + "." })
	texts := lettered(append(slices.Clone(put.Types), put.Type))
	return impl.Typing{Names: y.Names, Types: texts[:len(y.Types)], Type: texts[len(y.Types)]}, true
}

func TestPromise44(t *testing.T) {
	done, none := 0, 0
	for _, s := range append(someSources(), tree("both", distinct(30))) {
		y, ok := impl.SourceType(s)
		if !ok {
			continue
		}
		for _, x := range []string{notIn(s, fewVariables), notIn(s, []string{"x999", "y9"})} {
			around := "(lam " + x + " " + s + ")"
			if sourceProgram(around) == "" || !isSource(around) {
				continue
			}
			got, ok := impl.SourceType(around)
			want, okWant := ofNewLetter(y)
			if ok != okWant || !sameTyping(got, want) {
				t.Errorf("SourceType of %q is %q, and of %q %q, %v", s, y, around, got, ok)
			}
			done++
			if !ok {
				none++
			}
		}
	}
	if done < 1000 || none == 0 {
		t.Errorf("just %d typings, %d of them too large", done, none)
	}
}

func TestPromise45(t *testing.T) {
	for _, s := range append(someSources(), nestedTooMuch()...) {
		size := impl.SourceSize(s)
		if size < 1 || size > 80 {
			t.Errorf("%q has %d atoms", s, size)
		}
		for shape, more := range map[string]int{"(lam x ?)": 2, "(lam z999 ?)": 2, "(catch k ?)": 2, "(throw l0 ?)": 2, "(left ?)": 1, "(right ?)": 1, "(app ? x)": 2, "(both y ?)": 2} {
			around := strings.Replace(shape, "?", s, 1)
			want := size + more
			if want > 80 {
				want = -1
			}
			if got := impl.SourceSize(around); got != want || impl.SourceValid(around) != (want > 0) {
				t.Errorf("%q has %d atoms, and %q %d", s, size, around, got)
			}
		}
	}
}

func TestPromise46(t *testing.T) {
	plain, not := 0, 0
	for _, s := range someSources() {
		free, _ := impl.SourceFree(s)
		covariables := slices.DeleteFunc(slices.Clone(free), func(n string) bool { return strings.Contains("xyz", n[:1]) })
		if impl.SourcePlain(s) {
			plain++
			if len(covariables) > 0 {
				t.Errorf("%q is plain, and free are %q", s, free)
			}
		} else {
			not++
		}
		// One catch or throw anywhere, and it is plain no longer.
		for _, shape := range []string{"(lam x ?)", "(app ? x)", "(app x ?)", "(both ? x)", "(both x ?)", "(left ?)", "(right ?)"} {
			around := strings.Replace(shape, "?", s, 1)
			if impl.SourceValid(around) && impl.SourcePlain(around) != impl.SourcePlain(s) {
				t.Errorf("SourcePlain of %q is not that of %q", around, s)
			}
		}
		if impl.SourcePlain("(catch k "+s+")") || impl.SourcePlain("(throw k "+s+")") {
			t.Errorf("SourcePlain of catch or throw around %q", s)
		}
	}
	if plain < 300 || not < 300 {
		t.Errorf("just %d are plain, and %d are not", plain, not)
	}
}

func TestPromise47(t *testing.T) {
	m := &maker{state: 65}
	done, tooMany := 0, 0
	for i := range 1500 {
		of, atoms := fewNames, 12
		if i%3 == 0 {
			of, atoms = numbered(20), 28
		}
		a, b := m.formula(1+m.below(atoms), of), m.formula(1+m.below(atoms), of)
		function, ok := impl.FunctionType(a, b)
		if !ok {
			t.Fatalf("FunctionType of %q and %q fails", a, b)
		}
		few := len(formulaLetters(a, b)) <= 10
		for _, q := range [][2][]string{{{function, a}, {b}}, {{b}, {function}}} {
			if got, fails := impl.SequentFails(q[0], q[1]); fails || len(got) != 0 {
				t.Errorf("SequentFails of %q: %q", q, got)
			}
			if few && !impl.SequentValid(q[0], q[1]) {
				t.Errorf("SequentValid of %q does not hold", q)
			}
		}
		if few {
			done++
		} else {
			tooMany++
		}
		// It holds just where the formulas of which it is let it.
		for _, letters := range [][]string{nil, formulaLetters(a, b), m.assignment(formulaLetters(a, b))} {
			if got, want := impl.FormulaHolds(function, letters), !formulaHolds(a, letters) || formulaHolds(b, letters); got != want {
				t.Errorf("FormulaHolds of %q with %q: %v", function, letters, got)
			}
		}
	}
	if done < 1000 || tooMany < 50 {
		t.Errorf("just %d, and %d with too many letters", done, tooMany)
	}
}

func TestPromise48(t *testing.T) {
	done := 0
	for _, s := range someSources() {
		y, ok := impl.SourceType(s)
		if !ok {
			continue
		}
		for _, k := range []string{notIn(s, fewCovariables), notIn(s, []string{"k999", "l9"})} {
			caught, thrown := "(catch "+k+" "+s+")", "(catch "+k+" (throw "+k+" "+s+"))"
			for _, around := range []string{caught, thrown} {
				if p := sourceProgram(around); !isSource(around) || p == "" {
					continue
				}
				done++
				if got, ok := impl.SourceType(around); !ok || !sameTyping(got, y) {
					t.Errorf("SourceType of %q: %q, %v, and of %q %q", around, got, ok, s, y)
				}
			}
		}
	}
	if done < 2000 {
		t.Errorf("just %d typings", done)
	}
}
