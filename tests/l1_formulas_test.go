package tests

import (
	"slices"
	"strings"
	"testing"

	"loop.example/classicalcontrol/impl"
)

var fewNames = []string{"a", "b", "c1", "z99"}

// someFormulas are small ones of each kind, many made ones, and the greatest ones.
func someFormulas() []string {
	some := []string{"a", "b7", "z09", "(- a)", "(- (- a))", "(- (- (- a)))", "(* a b)", "(+ a a)", "(- (* a (- b)))", "(- (+ (- a) b))", "(* (+ a b) (- (* c1 (- z99))))", "(+ a (- a))", "(* a (- a))"}
	m := &maker{state: 1}
	some = append(some, m.formulas(200, 25, fewNames)...)
	some = append(some, m.formulas(50, 60, numbered(8))...)
	return append(some, nots(59, "a"), chain("*", append(numbered(29), "(- a)")), m.formula(60, fewNames))
}

// wrongFormulas are texts that are none, each for a reason of its own.
func wrongFormulas() []string {
	wrong := []string{
		"", " ", "(", ")", "()", "(())", "( )",
		" a", "a ", "a b", "(* a  b)", "( * a b)", "(* a b )", "(*  a b)", "(* a\tb)", "(* a\nb)", "(*a b)", "(-a)", "(* a b)\n", "(- (a))", "(- a)(- b)", "(- a) (- b)", "(*(- a) b)", "(* (- a)b)",
		"(* a b", "* a b)", "(* a b))", "((* a b)", "((* a b))", "(a)", "(a b)", "(a b c)", "(- ", "(- a", "-", "*", "+",
		"(- a b)", "(* a)", "(+ a)", "(-)", "(*)", "(* a b c)", "(+ a b c)", "(a * b)", "(a -)", "((-) a)", "((*) a b)", "(- *)", "(- -)", "(** a b)", "(++ a b)", "(-- a)", "(/ a b)", "(a* b c)",
		"A", "aB", "a_", "_", "a'", "é", "aé", "\x00", "a\x00", "\xff", "(- \xff)", "F", "(- F)", "(~ a)", "[a]", "a.", "a,b",
		"1", "12", "a-", "a+", "-a", "ab", "a1b", "aa1", "1a", "a123", "abc", "a1-", "a999", "(- a123)", "(* ab c)", "(* c ab)", "(+ b 1)", "(- (- 7))",
		nots(60, "a"), nots(199, "a"), nots(200, "a"), nots(201, "a"), strings.Repeat("(", 200) + "a" + strings.Repeat(")", 200), strings.Repeat("(", 201) + "a" + strings.Repeat(")", 201),
		chain("+", numbered(31)), "(- " + chain("+", append(numbered(29), "(- a)")) + ")",
		strings.Repeat("a", impl.TextMax), strings.Repeat("a", impl.TextMax+1), strings.Repeat("(", impl.TextMax), strings.Repeat("(- ", 2000), strings.Repeat("(- ", 2001),
		"(" + strings.Repeat("a ", impl.TextMax/2-2) + "a1)", "(" + strings.Repeat("a ", impl.TextMax/2-2) + "a12)",
	}
	return wrong
}

func TestTextLimitsAreThoseTested(t *testing.T) {
	if impl.TextMax != 6000 || impl.FormulaMax != 60 {
		t.Errorf("TextMax is %d and FormulaMax is %d", impl.TextMax, impl.FormulaMax)
	}
	lengths := map[int]bool{}
	for _, s := range wrongFormulas() {
		lengths[len(s)] = true
	}
	if !lengths[impl.TextMax] || !lengths[impl.TextMax+1] {
		t.Errorf("no texts of just TextMax bytes, or of one more")
	}
}

func TestFormulaValidOfFormulas(t *testing.T) {
	for _, s := range someFormulas() {
		if !impl.FormulaValid(s) {
			t.Errorf("%q is a formula", s)
		}
	}
}

func TestWrongFormulasFailEverywhere(t *testing.T) {
	for _, s := range wrongFormulas() {
		if impl.FormulaValid(s) {
			t.Errorf("%q is no formula", s)
		}
		if letters, ok := impl.FormulaLetters(s); ok || len(letters) != 0 {
			t.Errorf("FormulaLetters of %q: %q, %v", s, letters, ok)
		}
		if n := impl.FormulaSize(s); n != -1 {
			t.Errorf("FormulaSize of %q: %d", s, n)
		}
		if impl.FormulaHolds(s, []string{"a", s}) || impl.FormulaHolds(s, nil) {
			t.Errorf("FormulaHolds of %q", s)
		}
		if d, ok := impl.FormulaDual(s); ok || d != "" {
			t.Errorf("FormulaDual of %q: %q, %v", s, d, ok)
		}
		if p, ok := impl.FormulaPush(s); ok || p != "" {
			t.Errorf("FormulaPush of %q: %q, %v", s, p, ok)
		}
	}
}

func TestWrongFormulasAreInNoSequent(t *testing.T) {
	for _, s := range wrongFormulas() {
		// What holds and what does not without the wrong text beside it.
		for _, sides := range [][2][]string{{{s}, nil}, {nil, {s}}, {{"a", s}, {"a"}}, {{"a"}, {"a", s}}, {{s, "a"}, {"b"}}} {
			if impl.SequentHolds(sides[0], sides[1], nil) || impl.SequentHolds(sides[0], sides[1], []string{"a"}) {
				t.Errorf("SequentHolds of %q", sides)
			}
			if impl.SequentValid(sides[0], sides[1]) {
				t.Errorf("SequentValid of %q", sides)
			}
			if letters, ok := impl.SequentFails(sides[0], sides[1]); ok || len(letters) != 0 {
				t.Errorf("SequentFails of %q: %q, %v", sides, letters, ok)
			}
		}
	}
}

// TestFormulaValidOfChangedTexts holds texts with a byte put in, taken out or replaced against a rewriting of the text.
func TestFormulaValidOfChangedTexts(t *testing.T) {
	bytes := []string{"", "a", "b", "0", "9", "*", "+", "-", "(", ")", " ", "A", "z"}
	m := &maker{state: 2}
	taken := 0
	for _, s := range m.formulas(150, 12, []string{"a", "b1", "c22"}) {
		for i := range s {
			for _, b := range bytes {
				for _, changed := range []string{s[:i] + b + s[i:], s[:i] + b + s[i+1:]} {
					want := isFormula(changed)
					if got := impl.FormulaValid(changed); got != want {
						t.Fatalf("FormulaValid of %q: %v", changed, got)
					}
					if want {
						taken++
					}
				}
			}
		}
	}
	if taken < 1000 {
		t.Errorf("just %d changed texts are formulas", taken)
	}
}

func TestFormulaLimits(t *testing.T) {
	for _, s := range []string{"a", "a1", "a12", "a00", "z01", "q99"} {
		if !impl.FormulaValid(s) || impl.FormulaSize(s) != 1 {
			t.Errorf("%q is a letter", s)
		}
	}
	greatest := []string{nots(59, "a"), chain("*", append(numbered(29), "(- a)", "b")[1:]), nots(1, chain("+", numbered(30)))}
	for _, s := range greatest {
		if impl.FormulaSize(s) != 60 || !impl.FormulaValid(s) {
			t.Errorf("%q has 60 atoms, not %d", s, impl.FormulaSize(s))
		}
		if more := "(- " + s + ")"; impl.FormulaValid(more) || impl.FormulaSize(more) != -1 {
			t.Errorf("%q has 61 atoms", more)
		}
	}
}

func TestFormulaLetters(t *testing.T) {
	for s, want := range map[string][]string{
		"a":                           {"a"},
		"(* b (+ a b))":               {"b", "a"},
		"(* (- (+ z9 z)) (* z9 z09))": {"z9", "z", "z09"},
		"(+ a0 (+ a (+ a00 a)))":      {"a0", "a", "a00"},
		"(- (- c))":                   {"c"},
	} {
		if got, ok := impl.FormulaLetters(s); !ok || !slices.Equal(got, want) {
			t.Errorf("FormulaLetters of %q: %q, %v", s, got, ok)
		}
	}
	for _, s := range someFormulas() {
		if got, ok := impl.FormulaLetters(s); !ok || !slices.Equal(got, formulaLetters(s)) {
			t.Errorf("FormulaLetters of %q: %q, %v", s, got, ok)
		}
	}
}

func TestFormulaSize(t *testing.T) {
	for _, s := range someFormulas() {
		if got, want := impl.FormulaSize(s), len(atomText.FindAllString(s, -1)); got != want {
			t.Errorf("FormulaSize of %q: %d, not %d", s, got, want)
		}
	}
}

func TestFormulaHolds(t *testing.T) {
	m := &maker{state: 3}
	for _, s := range someFormulas() {
		letters := formulaLetters(s)
		for range 8 {
			chosen := m.assignment(letters)
			if got, want := impl.FormulaHolds(s, chosen), formulaHolds(s, chosen); got != want {
				t.Errorf("FormulaHolds of %q in %q: %v", s, chosen, got)
			}
			noise := append([]string{"", "A", "(- a)", "b123", "*", s + " "}, chosen...)
			noise = append(noise, chosen...)
			if impl.FormulaHolds(s, noise) != impl.FormulaHolds(s, chosen) {
				t.Errorf("FormulaHolds of %q in %q changes with %q", s, chosen, noise)
			}
		}
	}
}

func TestFormulaDual(t *testing.T) {
	for s, want := range map[string]string{
		"a":                        "a",
		"(- a)":                    "(- a)",
		"(* a b)":                  "(+ a b)",
		"(+ a (- (* b (+ c a1))))": "(* a (- (+ b (* c a1))))",
		"(- (- (+ a b)))":          "(- (- (* a b)))",
	} {
		if got, ok := impl.FormulaDual(s); !ok || got != want {
			t.Errorf("FormulaDual of %q: %q, %v", s, got, ok)
		}
	}
}

func TestFormulaPush(t *testing.T) {
	for s, want := range map[string]string{
		"a":                             "a",
		"(- a)":                         "(- a)",
		"(- (- a))":                     "a",
		"(- (- (- a)))":                 "(- a)",
		"(- (- (- (- a))))":             "a",
		"(- (- (* a b)))":               "(* a b)",
		"(- (- (- (+ a b))))":           "(* (- a) (- b))",
		"(* (- (- a)) (+ b (- (- c))))": "(* a (+ b c))",
		"(- (* a b))":                   "(+ (- a) (- b))",
		"(- (+ a b))":                   "(* (- a) (- b))",
		"(- (+ (- a) (* b (- c))))":     "(* a (+ (- b) c))",
		"(+ (- (* a (- (+ b c)))) d)":   "(+ (+ (- a) (+ b c)) d)",
		nots(58, "a"):                   "a",
		nots(59, "a"):                   "(- a)",
	} {
		if got, ok := impl.FormulaPush(s); !ok || got != want {
			t.Errorf("FormulaPush of %q: %q, %v", s, got, ok)
		}
	}
}

func TestFormulaPushLimit(t *testing.T) {
	names := numbered(21)
	names[0], names[1] = "(- a)", "(- b)"
	if got, ok := impl.FormulaPush(nots(1, chain("*", names))); !ok || impl.FormulaSize(got) != 60 {
		t.Errorf("a result of 60 atoms: %q, %v", got, ok)
	}
	names[1] = "b"
	if got, ok := impl.FormulaPush(nots(1, chain("*", names))); ok || got != "" {
		t.Errorf("a result of 61 atoms: %q, %v", got, ok)
	}
	if got, ok := impl.FormulaPush(nots(1, chain("+", numbered(30)))); ok || got != "" {
		t.Errorf("a result of 89 atoms: %q, %v", got, ok)
	}
	if got, ok := impl.FormulaPush(nots(3, chain("+", numbered(20)))); !ok || impl.FormulaSize(got) != 59 {
		t.Errorf("a result of 59 atoms: %q, %v", got, ok)
	}
}

func TestEmptySequents(t *testing.T) {
	empty := []string{}
	if impl.SequentHolds(nil, nil, nil) || impl.SequentHolds(empty, empty, []string{"a"}) || impl.SequentValid(nil, nil) || impl.SequentValid(empty, empty) {
		t.Errorf("the empty sequent holds")
	}
	if letters, ok := impl.SequentFails(nil, empty); !ok || len(letters) != 0 {
		t.Errorf("SequentFails of the empty sequent: %q, %v", letters, ok)
	}
	if !impl.SequentHolds([]string{"a"}, nil, nil) || impl.SequentHolds([]string{"a"}, nil, []string{"a"}) || !impl.SequentHolds(nil, []string{"a"}, []string{"a"}) || impl.SequentHolds(nil, []string{"a"}, nil) {
		t.Errorf("SequentHolds is wrong for one formula")
	}
}

func TestSequentOfTwelveFormulas(t *testing.T) {
	many := slices.Repeat([]string{"a"}, 13)
	for n := range 13 {
		left, right := many[:n], many[:12-n]
		if want := n > 0 && n < 12; impl.SequentValid(left, right) != want {
			t.Errorf("%d and %d formulas: SequentValid is not %v", n, 12-n, want)
		}
		if _, ok := impl.SequentFails(left, right); ok != (n == 0 || n == 12) {
			t.Errorf("%d and %d formulas: SequentFails is %v", n, 12-n, ok)
		}
		if impl.SequentHolds(left, right, nil) != (n > 0) || impl.SequentHolds(left, right, []string{"a"}) != (n < 12) {
			t.Errorf("%d and %d formulas: SequentHolds is wrong", n, 12-n)
		}
	}
	for n := range 14 {
		left, right := many[:n], many[:13-n]
		letters, ok := impl.SequentFails(left, right)
		if ok || len(letters) != 0 || impl.SequentValid(left, right) || impl.SequentHolds(left, right, nil) || impl.SequentHolds(left, right, []string{"a"}) {
			t.Errorf("%d and %d formulas are no sequent", n, 13-n)
		}
	}
}

func TestSequentOfTenLetters(t *testing.T) {
	ten, eleven := numbered(10), numbered(11)
	if !impl.SequentValid([]string{chain("*", ten)}, []string{chain("+", ten)}) || !impl.SequentValid(ten, ten[9:]) {
		t.Errorf("a valid sequent of 10 letters is not")
	}
	if impl.SequentValid([]string{chain("*", eleven)}, []string{chain("+", eleven)}) || impl.SequentValid(eleven, eleven[10:]) {
		t.Errorf("a sequent of 11 letters is valid")
	}
	if letters, ok := impl.SequentFails(nil, []string{"(- " + chain("*", ten) + ")"}); !ok || !slices.Equal(letters, ten) {
		t.Errorf("SequentFails with 10 letters: %q, %v", letters, ok)
	}
	for _, right := range [][]string{{chain("*", eleven)}, eleven} {
		if letters, ok := impl.SequentFails(nil, right); ok || len(letters) != 0 {
			t.Errorf("SequentFails with 11 letters: %q, %v", letters, ok)
		}
	}
	if letters, ok := impl.SequentFails(ten[:5], eleven[5:]); ok || len(letters) != 0 {
		t.Errorf("SequentFails with 11 letters on both sides: %q, %v", letters, ok)
	}
	// The number of letters matters for all assignments alone, not for one of them.
	if !impl.SequentHolds(nil, []string{chain("*", eleven)}, eleven) || impl.SequentHolds(nil, []string{chain("*", eleven)}, ten) {
		t.Errorf("SequentHolds is wrong for 11 letters")
	}
	most := []string{chain("+", numbered(30)), chain("*", numbered(60)[30:])}
	if !impl.SequentHolds(nil, most, []string{"d1"}) || impl.SequentHolds(nil, most, []string{"h1"}) || !impl.SequentHolds(most, nil, []string{"d1"}) {
		t.Errorf("SequentHolds is wrong for 60 letters")
	}
}

func TestSequentFailsTellsTheFirst(t *testing.T) {
	for _, c := range []struct{ left, right, want []string }{
		{[]string{"a"}, []string{"b"}, []string{"a"}},
		{nil, []string{"a", "b"}, nil},
		{[]string{"(+ a b)"}, nil, []string{"a"}},
		{[]string{"(+ b a)"}, nil, []string{"b"}},
		{[]string{"(* b a)"}, nil, []string{"b", "a"}},
		{[]string{"(+ (* a c) b)"}, []string{"c"}, []string{"b"}},
		{[]string{"(+ (* a c) b)"}, []string{"(* b c)"}, []string{"a", "c"}},
		{nil, []string{"(- (+ a (* b c)))"}, []string{"a"}},
		{[]string{"(+ c d)"}, []string{"c", "(- e)"}, []string{"d", "e"}},
		{[]string{"c"}, []string{"a", "(* c b)"}, []string{"c"}},
	} {
		if got, ok := impl.SequentFails(c.left, c.right); !ok || !slices.Equal(got, c.want) {
			t.Errorf("SequentFails of %q and %q: %q, %v", c.left, c.right, got, ok)
		}
	}
	for _, q := range someSequents() {
		var want []string
		all := assignments(formulaLetters(append(slices.Clone(q[0]), q[1]...)...))
		i := slices.IndexFunc(all, func(chosen []string) bool { return !sequentHolds(q[0], q[1], chosen) })
		if i >= 0 {
			want = all[i]
		}
		if got, ok := impl.SequentFails(q[0], q[1]); ok != (i >= 0) || !slices.Equal(got, want) {
			t.Errorf("SequentFails of %q: %q, %v, not %q", q, got, ok, want)
		}
		if got := impl.SequentValid(q[0], q[1]); got != (i < 0) {
			t.Errorf("SequentValid of %q: %v", q, got)
		}
	}
}

// someSequents are valid and other ones, of at most 10 letters, of 0 to 12 formulas.
func someSequents() [][2][]string {
	m := &maker{state: 4}
	var made [][2][]string
	for i := range 300 {
		left := m.formulas(m.below(4), 12, fewNames)
		right := m.formulas(m.below(4), 12, fewNames)
		made = append(made, [2][]string{left, right})
		if i%10 == 0 {
			made = append(made, [2][]string{m.formulas(6, 8, numbered(8)), m.formulas(m.below(7), 8, numbered(8))})
		}
	}
	return made
}

func TestSequentHolds(t *testing.T) {
	m := &maker{state: 5}
	for _, q := range someSequents() {
		chosen := m.assignment(append(fewNames, numbered(8)...))
		if got, want := impl.SequentHolds(q[0], q[1], chosen), sequentHolds(q[0], q[1], chosen); got != want {
			t.Errorf("SequentHolds of %q in %q: %v", q, chosen, got)
		}
	}
}

func TestArgumentsAndResultsAreApart(t *testing.T) {
	left := append(make([]string, 0, 8), "a", "(+ b c)")
	right := append(make([]string, 0, 8), "(* a b)")
	letters := append(make([]string, 0, 8), "c", "b")
	for range 2 {
		first, _ := impl.FormulaLetters("(* a b)")
		fails, ok := impl.SequentFails(left, right)
		if !ok || !slices.Equal(first, []string{"a", "b"}) || !slices.Equal(fails, []string{"a", "c"}) {
			t.Fatalf("the results are %q and %q", first, fails)
		}
		for _, result := range [][]string{first, fails} {
			for i := range result[:cap(result)] {
				result[:cap(result)][i] = "x"
			}
		}
		impl.SequentHolds(left, right, letters)
		impl.SequentValid(left, right)
		impl.FormulaHolds("(* a b)", letters)
	}
	if !slices.Equal(left[:8], []string{"a", "(+ b c)", "", "", "", "", "", ""}) || !slices.Equal(right[:3], []string{"(* a b)", "", ""}) || !slices.Equal(letters[:3], []string{"c", "b", ""}) {
		t.Errorf("the arguments are %q, %q and %q", left[:8], right[:8], letters[:8])
	}
}
