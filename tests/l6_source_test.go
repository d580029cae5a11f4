package tests

import (
	"slices"
	"strconv"
	"strings"
	"testing"

	"loop.example/classicalcontrol/impl"
)

// A sourceCase is a source term with what the functions tell of it.
type sourceCase struct {
	s       string
	free    string // with spaces between
	size    int
	plain   bool
	program string
}

// sourceCases are one of each word, names of each length, and new names beside others.
var sourceCases = []sourceCase{
	{"x", "x", 1, true, "x"},
	{"y7", "y7", 1, true, "y7"},
	{"z999", "z999", 1, true, "z999"},
	{"x000", "x000", 1, true, "x000"},
	{"(lam x x)", "", 3, true, "(not (tmu x0 (cut x0 (fst (tmu x1 (cut x0 (snd (neg x1))))))))"},
	{"(lam z999 z999)", "", 3, true, "(not (tmu x0 (cut x0 (fst (tmu x1 (cut x0 (snd (neg x1))))))))"},
	{"(lam y z)", "z", 3, true, "(not (tmu x0 (cut x0 (fst (tmu x1 (cut x0 (snd (neg z))))))))"},
	{"(app x y)", "x y", 3, true, "(mu k0 (cut x (neg (pair y (not k0)))))"},
	{"(app x x)", "x", 3, true, "(mu k0 (cut x (neg (pair x (not k0)))))"},
	{"(both y x)", "y x", 3, true, "(pair y x)"},
	{"(left x)", "x", 2, true, "(mu k0 (cut x (fst k0)))"},
	{"(right x)", "x", 2, true, "(mu k0 (cut x (snd k0)))"},
	{"(catch k x)", "x", 3, false, "(mu k0 (cut x k0))"},
	{"(catch m999 x)", "x", 3, false, "(mu k0 (cut x k0))"},
	{"(throw k x)", "k x", 3, false, "(mu k0 (cut x k))"},
	{"(throw l000 y)", "l000 y", 3, false, "(mu k0 (cut y l000))"},
	// Words within each other: each new name counts on.
	{"(lam x (lam y (both x y)))", "", 7, true, "(not (tmu x0 (cut x0 (fst (tmu x1 (cut x0 (snd (neg (not (tmu x2 (cut x2 (fst (tmu x3 (cut x2 (snd (neg (pair x1 x3)))))))))))))))))"},
	{"(lam x (app y x))", "y", 5, true, "(not (tmu x0 (cut x0 (fst (tmu x1 (cut x0 (snd (neg (mu k0 (cut y (neg (pair x1 (not k0)))))))))))))"},
	{"(app (lam x x) y)", "y", 5, true, "(mu k0 (cut (not (tmu x0 (cut x0 (fst (tmu x1 (cut x0 (snd (neg x1)))))))) (neg (pair y (not k0)))))"},
	{"(left (both x y))", "x y", 4, true, "(mu k0 (cut (pair x y) (fst k0)))"},
	{"(both (left x) (right x))", "x", 5, true, "(pair (mu k0 (cut x (fst k0))) (mu k1 (cut x (snd k1))))"},
	{"(left (right x))", "x", 3, true, "(mu k0 (cut (mu k1 (cut x (snd k1))) (fst k0)))"},
	{"(app (left x) (right y))", "x y", 5, true, "(mu k0 (cut (mu k1 (cut x (fst k1))) (neg (pair (mu k2 (cut y (snd k2))) (not k0)))))"},
	{"(catch k (throw k x))", "x", 5, false, "(mu k0 (cut (mu k1 (cut x k0)) k0))"},
	{"(catch k (throw l x))", "l x", 5, false, "(mu k0 (cut (mu k1 (cut x l)) k0))"},
	{"(throw k (catch l x))", "k x", 5, false, "(mu k0 (cut (mu k1 (cut x k1)) k))"},
	{"(throw k (throw l x))", "k l x", 5, false, "(mu k0 (cut (mu k1 (cut x l)) k))"},
	{"(lam x (throw k x))", "k", 5, false, "(not (tmu x0 (cut x0 (fst (tmu x1 (cut x0 (snd (neg (mu k0 (cut x1 k))))))))))"},
	{"(catch k (app x (lam y (throw k y))))", "x", 9, false, "(mu k0 (cut (mu k1 (cut x (neg (pair (not (tmu x0 (cut x0 (fst (tmu x1 (cut x0 (snd (neg (mu k2 (cut x1 k0)))))))))) (not k1))))) k0))"},
}

// capturable have free names that a new or canonical name could be.
var capturable = []sourceCase{
	{"(lam x y)", "y", 3, true, "(not (tmu x0 (cut x0 (fst (tmu x1 (cut x0 (snd (neg y))))))))"},
	{"(lam y x)", "x", 3, true, "(not (tmu x0 (cut x0 (fst (tmu x1 (cut x0 (snd (neg x))))))))"},
	{"(lam x x0)", "x0", 3, true, "(not (tmu x1 (cut x1 (fst (tmu x2 (cut x1 (snd (neg x0))))))))"},
	{"(lam x x1)", "x1", 3, true, "(not (tmu x0 (cut x0 (fst (tmu x2 (cut x0 (snd (neg x1))))))))"},
	{"(lam x0 x0)", "", 3, true, "(not (tmu x0 (cut x0 (fst (tmu x1 (cut x0 (snd (neg x1))))))))"},
	{"(lam x1 x1)", "", 3, true, "(not (tmu x0 (cut x0 (fst (tmu x1 (cut x0 (snd (neg x1))))))))"},
	{"(lam x0 x1)", "x1", 3, true, "(not (tmu x0 (cut x0 (fst (tmu x2 (cut x0 (snd (neg x1))))))))"},
	{"(lam x1 x0)", "x0", 3, true, "(not (tmu x1 (cut x1 (fst (tmu x2 (cut x1 (snd (neg x0))))))))"},
	{"(lam y (both x0 (both x1 y)))", "x0 x1", 7, true, "(not (tmu x2 (cut x2 (fst (tmu x3 (cut x2 (snd (neg (pair x0 (pair x1 x3))))))))))"},
	{"(both (lam x x) x0)", "x0", 5, true, "(pair (not (tmu x1 (cut x1 (fst (tmu x2 (cut x1 (snd (neg x2)))))))) x0)"},
	{"(lam x x00)", "x00", 3, true, "(not (tmu x0 (cut x0 (fst (tmu x1 (cut x0 (snd (neg x00))))))))"},
	{"(throw k0 x)", "k0 x", 3, false, "(mu k1 (cut x k0))"},
	{"(throw k1 x)", "k1 x", 3, false, "(mu k0 (cut x k1))"},
	{"(throw k00 x)", "k00 x", 3, false, "(mu k0 (cut x k00))"},
	{"(throw k0 (throw k1 x))", "k0 k1 x", 5, false, "(mu k2 (cut (mu k3 (cut x k1)) k0))"},
	{"(catch k (throw k0 x))", "k0 x", 5, false, "(mu k1 (cut (mu k2 (cut x k0)) k1))"},
	{"(catch k0 (throw k1 x))", "k1 x", 5, false, "(mu k0 (cut (mu k2 (cut x k1)) k0))"},
	{"(catch k1 (throw k0 x))", "k0 x", 5, false, "(mu k1 (cut (mu k2 (cut x k0)) k1))"},
	{"(catch k0 (throw k0 x))", "x", 5, false, "(mu k0 (cut (mu k1 (cut x k0)) k0))"},
	{"(app (throw k x) y)", "k x y", 5, false, "(mu k0 (cut (mu k1 (cut x k)) (neg (pair y (not k0)))))"},
	{"(app x (throw k0 y))", "x k0 y", 5, false, "(mu k1 (cut x (neg (pair (mu k2 (cut y k0)) (not k1)))))"},
	{"(app (throw k0 x) (throw k1 y))", "k0 x k1 y", 7, false, "(mu k2 (cut (mu k3 (cut x k0)) (neg (pair (mu k4 (cut y k1)) (not k2)))))"},
	{"(left (throw k0 x))", "k0 x", 4, false, "(mu k1 (cut (mu k2 (cut x k0)) (fst k1)))"},
	{"(right (throw k (throw k0 x0)))", "k k0 x0", 6, false, "(mu k1 (cut (mu k2 (cut (mu k3 (cut x0 k0)) k)) (snd k1)))"},
	{"(lam x (throw k0 (both x0 x)))", "k0 x0", 7, false, "(not (tmu x1 (cut x1 (fst (tmu x2 (cut x1 (snd (neg (mu k1 (cut (pair x0 x2) k0))))))))))"},
}

// boundTwice have names that are bound again, or stand free as well.
var boundTwice = []sourceCase{
	{"(lam x (lam x x))", "", 5, true, "(not (tmu x0 (cut x0 (fst (tmu x1 (cut x0 (snd (neg (not (tmu x2 (cut x2 (fst (tmu x3 (cut x2 (snd (neg x3))))))))))))))))"},
	{"(lam x (both x (lam x x)))", "", 7, true, "(not (tmu x0 (cut x0 (fst (tmu x1 (cut x0 (snd (neg (pair x1 (not (tmu x2 (cut x2 (fst (tmu x3 (cut x2 (snd (neg x3)))))))))))))))))"},
	{"(lam x (both (lam x x) x))", "", 7, true, "(not (tmu x0 (cut x0 (fst (tmu x1 (cut x0 (snd (neg (pair (not (tmu x2 (cut x2 (fst (tmu x3 (cut x2 (snd (neg x3)))))))) x1)))))))))"},
	{"(lam x (lam x y))", "y", 5, true, "(not (tmu x0 (cut x0 (fst (tmu x1 (cut x0 (snd (neg (not (tmu x2 (cut x2 (fst (tmu x3 (cut x2 (snd (neg y))))))))))))))))"},
	{"(both (lam x x) x)", "x", 5, true, "(pair (not (tmu x0 (cut x0 (fst (tmu x1 (cut x0 (snd (neg x1)))))))) x)"},
	{"(both x (lam x x))", "x", 5, true, "(pair x (not (tmu x0 (cut x0 (fst (tmu x1 (cut x0 (snd (neg x1)))))))))"},
	{"(app (lam x y) (lam y x))", "y x", 7, true, "(mu k0 (cut (not (tmu x0 (cut x0 (fst (tmu x1 (cut x0 (snd (neg y)))))))) (neg (pair (not (tmu x2 (cut x2 (fst (tmu x3 (cut x2 (snd (neg x)))))))) (not k0)))))"},
	{"(app (lam x (app x y)) (app y x))", "y x", 9, true, "(mu k0 (cut (not (tmu x0 (cut x0 (fst (tmu x1 (cut x0 (snd (neg (mu k1 (cut x1 (neg (pair y (not k1))))))))))))) (neg (pair (mu k2 (cut y (neg (pair x (not k2))))) (not k0)))))"},
	{"(both (lam x (both x y)) (both x (lam y y)))", "y x", 11, true, "(pair (not (tmu x0 (cut x0 (fst (tmu x1 (cut x0 (snd (neg (pair x1 y))))))))) (pair x (not (tmu x2 (cut x2 (fst (tmu x3 (cut x2 (snd (neg x3))))))))))"},
	{"(catch k (catch k x))", "x", 5, false, "(mu k0 (cut (mu k1 (cut x k1)) k0))"},
	{"(catch k (catch k (throw k x)))", "x", 7, false, "(mu k0 (cut (mu k1 (cut (mu k2 (cut x k1)) k1)) k0))"},
	{"(catch k (catch l (throw k x)))", "x", 7, false, "(mu k0 (cut (mu k1 (cut (mu k2 (cut x k0)) k1)) k0))"},
	{"(catch k (throw k (catch k x)))", "x", 7, false, "(mu k0 (cut (mu k1 (cut (mu k2 (cut x k2)) k0)) k0))"},
	{"(catch k (throw k (throw k x)))", "x", 7, false, "(mu k0 (cut (mu k1 (cut (mu k2 (cut x k0)) k0)) k0))"},
	{"(throw k (catch k (throw k x)))", "k x", 7, false, "(mu k0 (cut (mu k1 (cut (mu k2 (cut x k1)) k1)) k))"},
	{"(catch k (both (catch k (throw k x)) (throw k y)))", "x y", 11, false, "(mu k0 (cut (pair (mu k1 (cut (mu k2 (cut x k1)) k1)) (mu k3 (cut y k0))) k0))"},
	{"(both (catch k (throw k x)) (throw k y))", "x k y", 9, false, "(pair (mu k0 (cut (mu k1 (cut x k0)) k0)) (mu k2 (cut y k)))"},
	{"(both (throw k y) (catch k (throw k x)))", "k y x", 9, false, "(pair (mu k0 (cut y k)) (mu k1 (cut (mu k2 (cut x k1)) k1)))"},
	{"(app (catch k (throw k x)) (throw k y))", "x k y", 9, false, "(mu k0 (cut (mu k1 (cut (mu k2 (cut x k1)) k1)) (neg (pair (mu k3 (cut y k)) (not k0)))))"},
	{"(catch k (both (throw k x) (both (throw l x) (throw k y))))", "x l y", 13, false, "(mu k0 (cut (pair (mu k1 (cut x k0)) (pair (mu k2 (cut x l)) (mu k3 (cut y k0)))) k0))"},
	{"(lam x (catch k (lam x (throw k x))))", "", 9, false, "(not (tmu x0 (cut x0 (fst (tmu x1 (cut x0 (snd (neg (mu k0 (cut (not (tmu x2 (cut x2 (fst (tmu x3 (cut x2 (snd (neg (mu k1 (cut x3 k0)))))))))) k0))))))))))"},
}

func allCases() []sourceCase { return slices.Concat(sourceCases, capturable, boundTwice) }

// checkSource holds what all functions tell of a text against the helpers.
func checkSource(t *testing.T, s string) {
	t.Helper()
	if got := impl.SourceValid(s); got != isSource(s) {
		t.Fatalf("SourceValid of %q: %v", s, got)
	}
	if !isSource(s) {
		checkNoSource(t, s)
		return
	}
	if got, ok := impl.SourceFree(s); !ok || !slices.Equal(got, once(sourceFree(s))) {
		t.Errorf("SourceFree of %q: %q, %v", s, got, ok)
	}
	if got, want := impl.SourceSize(s), len(atomText.FindAllString(s, -1)); got != want {
		t.Errorf("SourceSize of %q: %d, not %d", s, got, want)
	}
	if got, want := impl.SourcePlain(s), !strings.Contains(s, "catch") && !strings.Contains(s, "throw"); got != want {
		t.Errorf("SourcePlain of %q: %v", s, got)
	}
	want := sourceProgram(s)
	if got, ok := impl.SourceProgram(s); ok != (want != "") || got != want {
		t.Errorf("SourceProgram of %q: %q, %v, not %q", s, got, ok, want)
	}
	typing, okTyping := sourceTyping(s)
	if got, ok := impl.SourceType(s); ok != okTyping || !sameTyping(got, typing) {
		t.Errorf("SourceType of %q: %q, %v, not %q", s, got, ok, typing)
	}
}

// checkNoSource tells that all functions fail for a text, and with what.
func checkNoSource(t *testing.T, s string) {
	t.Helper()
	if impl.SourceValid(s) || impl.SourcePlain(s) {
		t.Errorf("%q is a source term", s)
	}
	if got, ok := impl.SourceFree(s); ok || len(got) != 0 {
		t.Errorf("SourceFree of %q: %q, %v", s, got, ok)
	}
	if got, ok := impl.SourceProgram(s); ok || got != "" {
		t.Errorf("SourceProgram of %q: %q, %v", s, got, ok)
	}
	if got, ok := impl.SourceType(s); ok || !emptyTyping(got) {
		t.Errorf("SourceType of %q: %q, %v", s, got, ok)
	}
	if got := impl.SourceSize(s); got != -1 {
		t.Errorf("SourceSize of %q: %d", s, got)
	}
}

func TestSourceCases(t *testing.T) {
	for _, c := range allCases() {
		checkSource(t, c.s)
		free, ok := impl.SourceFree(c.s)
		if got := strings.Join(free, " "); !ok || got != c.free {
			t.Errorf("SourceFree of %q: %q, %v", c.s, got, ok)
		}
		if got := impl.SourceSize(c.s); got != c.size {
			t.Errorf("SourceSize of %q: %d, not %d", c.s, got, c.size)
		}
		if got := impl.SourcePlain(c.s); got != c.plain {
			t.Errorf("SourcePlain of %q: %v", c.s, got)
		}
		if got, ok := impl.SourceProgram(c.s); !ok || got != c.program {
			t.Errorf("SourceProgram of %q: %q, %v", c.s, got, ok)
		}
	}
}

// someSources are the cases, many made ones, and the greatest ones.
func someSources() []string {
	var some []string
	for _, c := range allCases() {
		some = append(some, c.s)
	}
	for s := range sourceTypings {
		some = append(some, s)
	}
	slices.Sort(some)
	m := &maker{state: 61}
	return slices.Concat(some, m.sources(400, 4), m.sources(200, 6), m.composed(600), untyped, greatestSources())
}

func TestSourcesOfMany(t *testing.T) {
	m := &maker{state: 62}
	counts := map[string]int{}
	for _, s := range append(someSources(), m.sources(1500, 4)...) {
		checkSource(t, s)
		_, typed := sourceTyping(s)
		counts["typed "+strconv.FormatBool(typed)]++
		counts["plain "+strconv.FormatBool(impl.SourcePlain(s))]++
		if p, ok := impl.SourceProgram(s); ok && !slices.Equal(freeOf(t, p), once(sourceFree(s))) {
			counts["other order"]++
		}
	}
	if len(counts) != 5 || slices.Min([]int{counts["typed true"], counts["typed false"], counts["plain true"], counts["plain false"], counts["other order"]}) < 300 {
		t.Errorf("just %v", counts)
	}
}

// greatestSources have just 80 atoms, or a program with just 200 parentheses within each other.
func greatestSources() []string {
	return []string{
		"(left " + tree("both", slices.Repeat([]string{"x"}, 40)) + ")",
		"(left (lam z999 " + tree("app", append(slices.Repeat([]string{"z999"}, 37), "(catch k999 x999)")) + "))",
		"(throw m000 " + tree("app", append(slices.Repeat([]string{"y000"}, 34), "(lam x x)", "(left y000)", "(lam x000 x)")) + ")",
		around(79, "(right ", "x", ")"), "(left " + around(39, "(catch k ", "x", ")") + ")", "(right " + around(39, "(throw k ", "x", ")") + ")",
		greatestProgram,
		around(25, "(lam x ", "x", ")"), around(24, "(lam x ", around(4, "(catch k ", "x", ")"), ")"), around(11, "(throw l ", around(22, "(lam y ", "(both (both x y) (both x y))", ")"), ")"),
	}
}

// greatestProgram has 80 atoms, and its program 470.
var greatestProgram = "(app " + around(20, "(lam x ", "x", ")") + " " + around(18, "(lam y ", "(left y)", ")") + ")"

// nestedTooMuch are source terms of few parentheses whose programs have more than 200 within each other.
func nestedTooMuch() []string {
	return []string{
		around(25, "(lam x ", "(both x x)", ")"), around(25, "(lam x ", "(left x)", ")"), around(25, "(lam x ", "(catch k x)", ")"), around(26, "(lam x ", "x", ")"), around(39, "(lam x ", "(right x)", ")"), around(39, "(lam x ", "x", ")"),
		around(24, "(lam x ", around(5, "(catch k ", "x", ")"), ")"), around(24, "(lam x ", around(4, "(catch k ", "(both x x)", ")"), ")"), around(11, "(throw l ", around(22, "(lam y ", "(both x (both x (both x y)))", ")"), ")"),
		"(both x " + around(25, "(lam x ", "x", ")") + ")", "(app " + around(25, "(lam x ", "x", ")") + " y)", "(app y " + around(25, "(lam x ", "x", ")") + ")",
	}
}

func TestSourceLimits(t *testing.T) {
	for i, s := range greatestSources() {
		checkSource(t, s)
		p := sourceProgram(s)
		if p == "" || i < 7 && impl.SourceSize(s) != 80 || i >= 7 && nesting(p) != 200 {
			t.Errorf("%q has %d atoms, and its program nesting %d", s, impl.SourceSize(s), nesting(p))
		}
		// One atom more.
		more := "(left " + s + ")"
		checkSource(t, more)
		if got := impl.SourceValid(more); got != (i >= 7) {
			t.Errorf("SourceValid of %q: %v", more, got)
		}
		if got, ok := impl.SourceProgram(more); ok || got != "" {
			t.Errorf("SourceProgram of %q: %q", more, got)
		}
	}
	for _, s := range nestedTooMuch() {
		checkSource(t, s)
		if got, ok := impl.SourceProgram(s); ok || got != "" || !impl.SourceValid(s) || nesting(s) > 100 || nesting(withNew(s)) <= 200 {
			t.Errorf("SourceProgram of %q: %q, %v", s, got, ok)
		}
		if got, ok := impl.SourceType(s); ok || !emptyTyping(got) || impl.SourceSize(s) < 1 {
			t.Errorf("SourceType of %q: %q, %v", s, got, ok)
		}
	}
	if got := impl.ProgramSize(sourceProgram(greatestProgram)); got != 470 {
		t.Errorf("the program of %q has %d atoms", greatestProgram, got)
	}
}

// No source term has a program of ProgramMax atoms, let alone more: this counts the most that a program of so many can have.
func TestProgramsOfSourcesHaveLessThanProgramMax(t *testing.T) {
	own := map[string]int{}
	for word, p := range sourcePrograms {
		own[word] = len(atomText.FindAllString(p, -1))
	}
	most := make([]int, 81)
	most[1] = 1
	for atoms := 2; atoms <= 80; atoms++ {
		most[atoms] = own["left"] - 1 + most[atoms-1]
		for first := 1; first < atoms-1; first++ {
			// The 1 and the 2 are not of the program itself.
			most[atoms] = max(most[atoms], own["app"]-2+most[first]+most[atoms-1-first])
		}
		if atoms > 2 {
			most[atoms] = max(most[atoms], own["lam"]-1+most[atoms-2], own["catch"]-1+most[atoms-2], own["throw"]-1+most[atoms-2])
		}
	}
	if most[80] != 474 || most[80] >= impl.ProgramMax {
		t.Errorf("%d atoms", most[80])
	}
}

// wrongSources are texts that are none, each for a reason of its own.
func wrongSources() []string {
	wrong := []string{
		"", " ", "(", ")", "()", "(())", "(x)", "((x))", "(k)", "x y", "(x y)", "(x y z)", "(k x)", " x", "x ", "x\n", "x\x00", "\xff", "é", "X", "V", "T",
		"k", "l", "m9", "k999", "(left k)", "(right l)", "(app x k)", "(app k x)", "(both m x)", "(both x m)", "(lam x k)", "(catch k k)", "(throw k k)", "(throw k l)",
		"a", "w", "j", "n1", "xx", "xk", "x1y", "1x", "1", "x-", "-x", "*", "+", "x1234", "y0000", "x9999", "k1234",
		"(left x1234)", "(app x x1234)", "(app x1234 x)", "(lam x1234 x)", "(lam x x1234)", "(catch k1234 x)", "(throw k1234 x)", "(throw l0000 x)", "(both z00000 x)", "(lam a x)", "(lam xx x)", "(lam 1 x)", "(catch a x)", "(catch kk x)", "(catch k- x)", "(throw a x)", "(throw 9 x)", "(catch 0 x)",
		"(lam k x)", "(lam l x)", "(catch x x)", "(catch y x)", "(throw x x)", "(throw z x)", "(throw x k)", "(catch x k)", "(lam (x) x)", "(lam (left x) x)", "(lam () x)", "(catch (k) x)", "(throw (k) x)", "(throw (left x) x)", "(lam lam x)", "(catch catch x)", "(throw throw x)",
		"lam", "app", "both", "left", "right", "catch", "throw", "(lam)", "(app)", "(both)", "(left)", "(right)", "(catch)", "(throw)",
		"(lam x)", "(app x)", "(both x)", "(catch k)", "(throw k)", "(catch x)", "(throw x)", "(lam x x x)", "(lam x y x y)", "(app x y z)", "(both x y z)", "(left x y)", "(right x y)", "(catch k x y)", "(throw k x y)", "(catch k l x)", "(throw k l x)", "(left x y z)", "(app x y (left x) (left y))",
		"(Lam x x)", "(lam1 x x)", "(lams x x)", "(la x x)", "(apps x y)", "(ap x y)", "(left1 x)", "(lefts x)", "(lef x)", "(catches k x)", "(catch1 k x)", "(throws k x)", "(fun x x)", "(let x x)", "(lambda x x)", "(pair x y)", "(inl x)", "(inr x)", "(fst x)", "(snd x)", "(not k)", "(neg x)", "(mu k x)", "(tmu x x)", "(cut x k)", "(case k l)", "(* x y)", "(- x)", "(fun x)", "(end x)",
		"(lam  x x)", "( lam x x)", "(lam x x )", "(lam x  x)", "(lam x\tx)", "(lam x\nx)", "(lam x x", "lam x x)", "lam x x", "(lam x x))", "((lam x x)", "((lam x x))", "((lam) x x)", "(lam x (x))", "(left (x))", "(app(left x) y)", "(app x(left y))", "(app (left x)y)", "(left x)(left x)", "(left x) (left x)", "(left x) y",
		strings.Repeat("x", impl.TextMax), strings.Repeat("x", impl.TextMax+1), strings.Repeat("(", impl.TextMax), strings.Repeat("(left ", 1000), strings.Repeat("(left ", 1001), around(200, "(left ", "x", ")"), around(201, "(left ", "x", ")"), around(199, "(", "(left x)", ")"), around(200, "(", "(left x)", ")"),
		"(left" + strings.Repeat(" ", impl.TextMax-7) + "x)", "(left" + strings.Repeat(" ", impl.TextMax-6) + "x)", "(app" + strings.Repeat(" x", (impl.TextMax-5)/2) + ")", "(app" + strings.Repeat(" x", (impl.TextMax-5)/2) + "0)",
		tree("both", slices.Repeat([]string{"x"}, 41)), "(left (left " + tree("app", slices.Repeat([]string{"y"}, 40)) + "))", "(lam x " + tree("app", slices.Repeat([]string{"y"}, 40)) + ")", "(catch k " + tree("app", slices.Repeat([]string{"y"}, 40)) + ")", "(throw k " + tree("app", slices.Repeat([]string{"y"}, 40)) + ")",
		around(80, "(left ", "x", ")"), around(40, "(lam x ", "x", ")"), around(40, "(catch k ", "x", ")"), around(40, "(throw k ", "x", ")"), tree("app", slices.Repeat([]string{"(lam x x)"}, 21)),
	}
	// What is wrong within is wrong everywhere.
	for _, inner := range []string{"k", "x1234", "(lam x)", "(pair x y)", "(lam k x)", "(catch x x)", "(throw x x)", "(left x y)", "(x)"} {
		for _, place := range []string{"(lam x ?)", "(app ? x)", "(app x ?)", "(both ? x)", "(both x ?)", "(left ?)", "(right ?)", "(catch k ?)", "(throw k ?)", "(app (left (lam x (catch k ?))) y)", "(both x (right (throw k (app ? x))))"} {
			wrong = append(wrong, strings.Replace(place, "?", inner, 1))
		}
	}
	return wrong
}

func TestTextsThatAreNoSource(t *testing.T) {
	lengths := map[int]bool{}
	for _, s := range wrongSources() {
		if isSource(s) {
			t.Fatalf("%q is a source term", s)
		}
		checkNoSource(t, s)
		lengths[len(s)] = true
	}
	if !lengths[impl.TextMax] || !lengths[impl.TextMax+1] {
		t.Errorf("no texts of just TextMax bytes, or of one more")
	}
}

// Programs are no source terms but for variables, and the other way round.
func TestProgramsAreNoSources(t *testing.T) {
	for _, s := range somePrograms() {
		checkSource(t, s)
		if got, want := impl.SourceValid(s), programKind(s) == "term" && !strings.Contains(s, "("); got != want {
			t.Errorf("SourceValid of %q: %v", s, got)
		}
	}
	for _, s := range someSources() {
		if got := impl.ProgramKind(s); (got == "term") != !strings.Contains(s, "(") {
			t.Errorf("ProgramKind of %q: %q", s, got)
		}
	}
	for _, s := range wrongPrograms() {
		checkSource(t, s)
	}
}

// TestSourceValidOfChangedTexts holds texts with some bytes put in, taken out or replaced against a rewriting of the text.
func TestSourceValidOfChangedTexts(t *testing.T) {
	pieces := []string{"", "x", "k", "w", "0", "9", "-", "(", ")", " ", "X", "l", "\xff", "left", "(x", "k)"}
	m := &maker{state: 63}
	taken := 0
	some := m.sources(60, 2)
	for _, c := range sourceCases[4:16] {
		some = append(some, c.s)
	}
	for _, s := range some {
		for i := range s {
			for _, piece := range pieces {
				for _, changed := range []string{s[:i] + piece + s[i:], s[:i] + piece + s[i+1:]} {
					checkSource(t, changed)
					if isSource(changed) {
						taken++
					}
				}
			}
		}
	}
	if taken < 1000 {
		t.Errorf("just %d changed texts are source terms", taken)
	}
}

// TestNamesOfSources takes names of 1 to 5 bytes to each place.
func TestNamesOfSources(t *testing.T) {
	for _, digits := range []string{"", "0", "00", "01", "7", "99", "000", "123", "999", "0000", "1000", "9999", "00000"} {
		for _, first := range "abcdefghijklmnopqrstuvwxyz*+-0" {
			n := string(first) + digits
			variable := strings.ContainsRune("xyz", first) && len(n) <= 4
			covariable := strings.ContainsRune("klm", first) && len(n) <= 4
			for shape, want := range map[string]bool{"?": variable, "(lam ? x)": variable, "(lam x ?)": variable, "(app ? ?)": variable, "(left ?)": variable, "(catch k ?)": variable, "(throw k ?)": variable, "(catch ? x)": covariable, "(throw ? x)": covariable, "(catch ? (throw ? x))": covariable, "(lam ? (throw ? x))": false, "(? x)": false, "(? x y)": false} {
				s := strings.ReplaceAll(shape, "?", n)
				checkSource(t, s)
				if got := impl.SourceValid(s); got != want {
					t.Errorf("SourceValid of %q: %v", s, got)
				}
			}
		}
	}
}

// TestNumbersOfSourceParts puts 0 to 8 parts behind each word, the first of which may be a name of both kinds.
func TestNumbersOfSourceParts(t *testing.T) {
	right := map[string]int{"lam": 2, "app": 2, "both": 2, "left": 1, "right": 1, "catch": 2, "throw": 2, "x": -1, "k": -1, "pair": -1}
	for word, want := range right {
		for count := range 9 {
			for _, first := range []string{"x", "k", "(left y)"} {
				parts := slices.Repeat([]string{"x"}, count)
				if count > 0 {
					parts[0] = first
				}
				s := "(" + strings.Join(append([]string{word}, parts...), " ") + ")"
				fits := first == "x" && word != "catch" && word != "throw" || first == "k" && (word == "catch" || word == "throw") || first == "(left y)" && sourceWords[word]
				checkSource(t, s)
				if got := impl.SourceValid(s); got != (count == want && fits) {
					t.Errorf("SourceValid of %q: %v", s, got)
				}
			}
		}
	}
}

// sourceWords are those behind which source terms stand alone.
var sourceWords = map[string]bool{"app": true, "both": true, "left": true, "right": true}

// sourceTypings are the typings of source terms.
var sourceTypings = map[string]impl.Typing{
	"x":                  typing("x", "a", "a"),
	"(lam x x)":          typing("(- (* a (- a)))"),
	"(lam x y)":          typing("y", "a", "(- (* b (- a)))"),
	"(app x y)":          typing("x", "(- (* a (- b)))", "y", "a", "b"),
	"(app (lam x x) y)":  typing("y", "a", "a"),
	"(both x y)":         typing("x", "a", "y", "b", "(* a b)"),
	"(both x x)":         typing("x", "a", "(* a a)"),
	"(left x)":           typing("x", "(* a b)", "a"),
	"(right x)":          typing("x", "(* a b)", "b"),
	"(left (both x y))":  typing("x", "a", "y", "b", "a"),
	"(right (both x y))": typing("x", "a", "y", "b", "b"),
	"(catch k x)":        typing("x", "a", "a"),
	// The names are in the order of the program, that of throw behind.
	"(throw k x)":                                       typing("x", "a", "k", "a", "b"),
	"(throw k (app x y))":                               typing("x", "(- (* a (- b)))", "y", "a", "k", "b", "c"),
	"(both (throw k x) (throw l y))":                    typing("x", "a", "k", "a", "y", "b", "l", "b", "(* c d)"),
	"(catch k (throw k x))":                             typing("x", "a", "a"),
	"(catch k (throw l x))":                             typing("x", "a", "l", "a", "b"),
	"(throw k (catch k x))":                             typing("x", "a", "k", "a", "b"),
	"(throw k (throw l x))":                             typing("x", "a", "l", "a", "k", "b", "c"),
	"(app (throw k x) y)":                               typing("x", "a", "k", "a", "y", "b", "c"),
	"(left (throw k x))":                                typing("x", "a", "k", "a", "b"),
	"(catch k (both x (throw k y)))":                    typing("x", "a", "y", "(* a b)", "(* a b)"),
	"(lam x (lam y x))":                                 typing("(- (* a (- (- (* b (- a))))))"),
	"(lam x (lam x x))":                                 typing("(- (* a (- (- (* b (- b))))))"),
	"(lam x (both x (lam x x)))":                        typing("(- (* a (- (* a (- (* b (- b)))))))"),
	"(both (lam x (left x)) x)":                         typing("x", "a", "(* (- (* (* b c) (- b))) a)"),
	"(lam z (app (left z) (right z)))":                  typing("(- (* (* (- (* a (- b))) a) (- b)))"),
	"(lam x (lam y (lam z (app (app x z) (app y z)))))": typing("(- (* (- (* a (- (- (* b (- c)))))) (- (- (* (- (* a (- b))) (- (- (* a (- c)))))))))"),
	"(catch k (lam x (throw k (lam y x))))":             typing("(- (* a (- a)))"),
	"(lam x (catch k (app x (lam y (throw k y)))))":     typing("(- (* (- (* (- (* a (- b))) (- a))) (- a)))"),
	"(catch k (app y (lam x (throw k x))))":             typing("y", "(- (* (- (* a (- b))) (- a)))", "a"),
	"(lam x (throw l x))":                               typing("l", "a", "(- (* a (- b)))"),
	"(app (catch k (throw k x)) (throw k y))":           typing("x", "(- (* a (- b)))", "y", "c", "k", "c", "b"),
	"(app x1 (app x0 x2))":                              typing("x1", "(- (* a (- b)))", "x0", "(- (* c (- a)))", "x2", "c", "b"),
}

// untyped are source terms without a typing, though their programs are programs.
var untyped = []string{
	"(app x x)", "(lam x (app x x))", "(app (lam x (app x x)) (lam x (app x x)))", "(app (both x y) z)", "(left (lam x x))", "(right (lam x y))", "(both (left x) (app x y))", "(both (app x y) (app y x))",
	"(catch k (lam x (throw k x)))", "(catch k (both x (throw k x)))", "(catch k (throw k (both x (catch l (throw k x)))))", "(catch k (left (throw k (lam x (throw k (both x x))))))", "(lam x (catch k (app x (throw k x))))", "(both (throw k x) (throw k (both x x)))", "(both (throw k (lam x x)) (throw k (both x y)))", "(app (lam x (left x)) (lam y y))",
}

func TestSourceType(t *testing.T) {
	for s, want := range sourceTypings {
		checkSource(t, s)
		if got, ok := impl.SourceType(s); !ok || !sameTyping(got, want) {
			t.Errorf("SourceType of %q: %q, %v", s, got, ok)
		}
	}
	for _, s := range untyped {
		checkSource(t, s)
		if got, ok := impl.SourceType(s); ok || !emptyTyping(got) {
			t.Errorf("SourceType of %q: %q", s, got)
		}
		if _, ok := impl.SourceProgram(s); !ok {
			t.Errorf("SourceProgram of %q fails", s)
		}
	}
	for _, s := range someSources() {
		p, ok := impl.SourceProgram(s)
		want, okWant := impl.TypeOf(p)
		if got, okGot := impl.SourceType(s); okGot != (ok && okWant) || !sameTyping(got, want) {
			t.Errorf("SourceType of %q: %q, and TypeOf of its program %q", s, got, want)
		}
	}
}

// All types of source terms have an odd number of atoms, so that the greatest one that is a formula has 59.
func TestSourceTypeLimits(t *testing.T) {
	thirty := tree("both", distinct(30))
	for s, want := range map[string]int{
		thirty: 59, tree("both", distinct(31)): -1, "(lam y " + tree("both", distinct(28)) + ")": 59, "(lam y " + tree("both", distinct(29)) + ")": -1,
		"(left (both x0 " + thirty + "))": 1, "(left (both " + thirty + " x0))": 59, "(left (both x0 " + tree("both", distinct(31)) + "))": 1, "(both x0 " + thirty + ")": -1,
		"(throw k " + thirty + ")": 59, "(throw k " + tree("both", distinct(31)) + ")": -1, "(catch k (throw k " + thirty + "))": 59, "(catch k (throw k " + tree("both", distinct(31)) + "))": -1,
		around(14, "(lam x ", "y", ")"): 57, around(15, "(lam x ", "y", ")"): -1, around(14, "(app ", "x", " y)"): 57, around(15, "(app ", "x", " y)"): -1,
	} {
		checkSource(t, s)
		got, ok := impl.SourceType(s)
		if ok != (want > 0) {
			t.Errorf("SourceType of %q: %q, %v", s, got, ok)
		}
		greatest := -1
		for _, of := range append(got.Types, got.Type) {
			greatest = max(greatest, impl.FormulaSize(of))
		}
		if greatest != want {
			t.Errorf("SourceType of %q has a type of %d atoms, not %d", s, greatest, want)
		}
	}
}

func TestFunctionType(t *testing.T) {
	for _, c := range [][3]string{
		{"a", "b", "(- (* a (- b)))"}, {"a", "a", "(- (* a (- a)))"}, {"z99", "a00", "(- (* z99 (- a00)))"},
		{"(+ a b)", "(- c)", "(- (* (+ a b) (- (- c))))"}, {"(- (* a (- b)))", "c", "(- (* (- (* a (- b))) (- c)))"}, {"a", "(- (* b (- c)))", "(- (* a (- (- (* b (- c))))))"}, {"(- (- a))", "(* a b)", "(- (* (- (- a)) (- (* a b))))"},
	} {
		if got, ok := impl.FunctionType(c[0], c[1]); !ok || got != c[2] {
			t.Errorf("FunctionType of %q and %q: %q, %v", c[0], c[1], got, ok)
		}
	}
	m := &maker{state: 64}
	for range 500 {
		a, b := m.formula(1+m.below(32), fewNames), m.formula(1+m.below(32), fewNames)
		want := "(- (* " + a + " (- " + b + ")))"
		if !isFormula(want) {
			want = ""
		}
		if got, ok := impl.FunctionType(a, b); ok != (want != "") || got != want {
			t.Errorf("FunctionType of %q and %q: %q, %v", a, b, got, ok)
		}
	}
}

func TestFunctionTypeLimits(t *testing.T) {
	for atoms := 1; atoms <= 62; atoms++ {
		for other := 1; other <= 62; other++ {
			a, b := nots(atoms-1, "a"), nots(other-1, "b")
			got, ok := impl.FunctionType(a, b)
			if ok != (atoms+other <= 57) || ok && impl.FormulaSize(got) != atoms+other+3 || !ok && got != "" {
				t.Errorf("FunctionType of %d and %d atoms: %q, %v", atoms, other, got, ok)
			}
		}
	}
	for _, s := range append(wrongFormulas(), "x1234", "(lam x x)", "(pair x y)") {
		for _, c := range [][2]string{{s, "a"}, {"a", s}, {s, s}, {s, ""}, {"(* a b)", s}, {s, nots(59, "a")}} {
			if got, ok := impl.FunctionType(c[0], c[1]); ok || got != "" {
				t.Errorf("FunctionType of %q and %q: %q", c[0], c[1], got)
			}
		}
	}
}

// A program of which just bound names differ is the same, canonical, whatever names the source term has.
func TestSourceProgramOfRenamedSources(t *testing.T) {
	for _, c := range [][]string{
		{"(lam x (lam y (both x y)))", "(lam y (lam x (both y x)))", "(lam x0 (lam x1 (both x0 x1)))", "(lam x1 (lam x0 (both x1 x0)))", "(lam z99 (lam z (both z99 z)))"},
		{"(catch k (throw k (catch l (both (throw k x) (throw l x)))))", "(catch l (throw l (catch k (both (throw l x) (throw k x)))))", "(catch k1 (throw k1 (catch k0 (both (throw k1 x) (throw k0 x)))))"},
		{"(lam x (lam x x))", "(lam y (lam x x))", "(lam x0 (lam x1 x1))"}, {"(catch k (catch k (throw k x)))", "(catch l (catch k (throw k x)))"},
	} {
		want, ok := impl.SourceProgram(c[0])
		if !ok || want == "" {
			t.Errorf("SourceProgram of %q fails", c[0])
		}
		for _, s := range c {
			if got, ok := impl.SourceProgram(s); !ok || got != want {
				t.Errorf("SourceProgram of %q: %q, not %q", s, got, want)
			}
		}
	}
	for _, c := range [][2]string{{"(lam x (lam y x))", "(lam x (lam y y))"}, {"(catch k (catch l (throw k x)))", "(catch k (catch l (throw l x)))"}, {"(lam x y)", "(lam x z)"}, {"(throw k x)", "(throw l x)"}, {"(catch k (throw k x))", "(catch k (throw l x))"}, {"(left x)", "(right x)"}, {"(app x y)", "(app y x)"}} {
		p, _ := impl.SourceProgram(c[0])
		if got, ok := impl.SourceProgram(c[1]); !ok || got == p {
			t.Errorf("SourceProgram of %q and of %q: %q", c[0], c[1], got)
		}
	}
}

// What is returned can be overwritten, and what is given stays as it is.
func TestSourceResultsAreNewMemory(t *testing.T) {
	s := "(both (throw k x) (app y (throw l (both x z))))"
	wantFree, _ := impl.SourceFree(s)
	wantTyping, _ := impl.SourceType(s)
	wantFree = slices.Clone(wantFree)
	wantTyping = impl.Typing{Names: slices.Clone(wantTyping.Names), Types: slices.Clone(wantTyping.Types), Type: wantTyping.Type}
	for range 3 {
		free, okFree := impl.SourceFree(s)
		y, okTyping := impl.SourceType(s)
		if !okFree || !okTyping || !slices.Equal(free, wantFree) || !sameTyping(y, wantTyping) {
			t.Fatalf("SourceFree and SourceType of %q: %q, %q", s, free, y)
		}
		overwrite(free)
		overwrite(y.Names)
		if !slices.Equal(y.Types, wantTyping.Types) {
			t.Fatalf("names and types of %q share memory", s)
		}
		overwrite(y.Types)
	}
}
