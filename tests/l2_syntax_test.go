package tests

import (
	"slices"
	"strings"
	"testing"

	"loop.example/classicalcontrol/impl"
)

// smallPrograms are one of each form, names of each length, and names that are bound in many ways.
var smallPrograms = map[string]string{
	"x": "term", "y7": "term", "z09": "term", "x999": "term", "y000": "term",
	"k": "coterm", "l7": "coterm", "m09": "coterm", "k999": "coterm", "l000": "coterm",
	"(pair x y)": "term", "(inl x)": "term", "(inr x)": "term", "(not k)": "term", "(mu k (cut x k))": "term",
	"(case k l)": "coterm", "(fst k)": "coterm", "(snd k)": "coterm", "(neg x)": "coterm", "(tmu x (cut x k))": "coterm",
	"(cut x k)": "statement", "(cut (mu k (cut x k)) (tmu x (cut x k)))": "statement", "(cut (not k) (neg x))": "statement",
	"(mu m999 (cut (inl x) (fst m999)))": "term", "(tmu z000 (cut (pair z000 x) (case k k)))": "coterm",
	"(not (case (fst k) (snd l)))": "term", "(neg (pair (inl x) (inr y)))": "coterm",
	"(mu k (cut (mu k (cut x k)) k))": "term", "(tmu x (cut x (tmu x (cut x (neg x)))))": "coterm",
}

// somePrograms are the small ones, many made ones, and the greatest ones.
func somePrograms() []string {
	var some []string
	for s := range smallPrograms {
		some = append(some, s)
	}
	slices.Sort(some)
	m := &maker{state: 21}
	some = append(some, m.programs(300, 4)...)
	some = append(some, m.programs(60, 9)...)
	return append(some, greatestPrograms()...)
}

// greatestPrograms have just 500 atoms, or just 200 parentheses within each other.
func greatestPrograms() []string {
	return []string{
		"(inl " + tree("pair", slices.Repeat([]string{"x999"}, 250)) + ")",
		"(snd " + tree("case", slices.Repeat([]string{"m000"}, 250)) + ")",
		"(cut (inr " + tree("pair", slices.Repeat([]string{"y"}, 125)) + ") " + tree("case", slices.Repeat([]string{"l"}, 125)) + ")",
		"(fst " + tree("case", append(slices.Repeat([]string{"(tmu y1 (cut y1 m))"}, 82), "(snd k)", "(snd k)", "k0")) + ")",
		around(200, "(inl ", "x", ")"), around(200, "(snd ", "k", ")"), "(cut " + around(199, "(inr ", "x", ")") + " k)",
		around(100, "(mu k (cut ", "x", " k))"), around(100, "(tmu x (cut x ", "k", "))"), around(100, "(not (neg ", "x", "))"),
	}
}

// wrongPrograms are texts that are none, each for a reason of its own.
func wrongPrograms() []string {
	return slices.Concat(wrongShapes(), wrongKinds(), []string{
		"x1234", "k1234", "x0000", "(inl x1234)", "(cut x k1234)", "(mu k1234 (cut x k1234))", "(tmu x1234 (cut x1234 k))",
		"(inl (inl " + tree("pair", slices.Repeat([]string{"x"}, 250)) + "))",
		tree("pair", slices.Repeat([]string{"x"}, 251)), tree("case", slices.Repeat([]string{"k"}, 251)),
		"(cut " + tree("pair", slices.Repeat([]string{"y"}, 126)) + " " + tree("case", slices.Repeat([]string{"l"}, 125)) + ")",
		around(201, "(inl ", "x", ")"), around(201, "(snd ", "k", ")"), "(cut " + around(200, "(inr ", "x", ")") + " k)", around(100, "(mu k (cut ", "(inl x)", " k))"),
		strings.Repeat("x", impl.TextMax), strings.Repeat("x", impl.TextMax+1), strings.Repeat("(", impl.TextMax), strings.Repeat("(inl ", 1200), strings.Repeat("(inl ", 1201),
		"(pair" + strings.Repeat(" x", impl.TextMax/2-3) + ")", "(pair" + strings.Repeat(" x", impl.TextMax/2-3) + "1)",
		"(inl" + strings.Repeat(" ", impl.TextMax-6) + "x)", "(inl" + strings.Repeat(" ", impl.TextMax-5) + "x)",
	})
}

// wrongShapes have wrong bytes, names, spaces, parentheses, heads or numbers of parts.
func wrongShapes() []string {
	return []string{
		"", " ", "(", ")", "()", "(())", "( )", "x k", "(x)", "(k)", "((x))", "(x k)",
		" x", "x ", "x\n", "(inl x) ", " (inl x)", "(inl  x)", "( inl x)", "(inl x )", "(pair x  y)", "(pair x\ty)", "(cut x\nk)", "(inl(inl x))", "(pair (inl x)y)", "(pair x(inl y))", "(mu  k (cut x k))", "(mu k  (cut x k))", "(mu k(cut x k))",
		"(inl x", "inl x", "inl x)", "(inl x))", "((inl x)", "((inl x))", "(inl (x))", "(cut (x) k)", "(cut x (k))", "(mu (k) (cut x k))", "(mu k ((cut x k)))", "(mu k (cut x k)", "(inl x)(inl x)", "(inl x) (inl x)", "((inl) x)", "((cut x k))",
		"a", "b1", "w", "n", "j", "X", "K", "xx", "xk", "kl", "x1y", "1x", "1", "x-", "x1+", "-x", "*", "x_", "x.", "é", "x\x00", "\xff", "(inl \xff)", "x\xff", "V", "T", "(inl V)",
		"pair", "inl", "mu", "tmu", "cut", "(pair)", "(cut)", "(mu)", "(tmu)", "(inl)", "(not)", "(neg)", "(case)", "(mu k)", "(tmu x)", "(mu (cut x k))", "(tmu (cut x k))",
		"(pair x)", "(pair x y z)", "(inl x y)", "(inr x y)", "(not k l)", "(case k)", "(case k l m)", "(fst k l)", "(snd k l)", "(neg x y)", "(cut x)", "(cut k)", "(cut x k l)", "(cut x y k)", "(mu k l (cut x k))", "(mu k (cut x k) k)", "(tmu x y (cut x k))", "(mu mu (cut x k))", "(mu cut (cut x k))",
		"(Pair x y)", "(pairs x y)", "(in x)", "(inl1 x)", "(nots k)", "(tmu0 x (cut x k))", "(lam x x)", "(app x y)", "(* x y)", "(- x)", "(x y)", "(x inl)", "(k (cut x k))", "(k x)",
	}
}

// wrongKinds have a program or a name where one of another kind stands.
func wrongKinds() []string {
	wrong := []string{"(mu x (cut x k))", "(tmu k (cut x k))", "(mu y (cut x k))", "(tmu m (cut x k))", "(mu k x)", "(mu k k)", "(mu k (inl x))", "(tmu x x)", "(tmu x k)", "(tmu x (fst k))", "(mu k (mu l (cut x k)))", "(tmu x (tmu y (cut x k)))", "(cut k x)", "(cut x y)", "(cut k l)", "(cut (fst k) (inl x))"}
	forms := map[string]string{"T": "(inl x)", "v": "x", "K": "(fst k)", "c": "k", "S": "(cut x k)"}
	places := [][2]string{{"(pair ? y)", "SKc"}, {"(pair y ?)", "SKc"}, {"(inl ?)", "SKc"}, {"(inr ?)", "SKc"}, {"(not ?)", "STv"}, {"(mu k ?)", "TvKc"}, {"(mu ? (cut x k))", "TvKS"}, {"(case ? k)", "STv"}, {"(case k ?)", "STv"}, {"(fst ?)", "STv"}, {"(snd ?)", "STv"}, {"(neg ?)", "SKc"}, {"(tmu x ?)", "TvKc"}, {"(tmu ? (cut x k))", "TKcS"}, {"(cut ? k)", "SKc"}, {"(cut x ?)", "STv"}}
	for _, place := range places {
		for _, kind := range place[1] {
			s := strings.Replace(place[0], "?", forms[string(kind)], 1)
			wrong = append(wrong, s, "(cut (mu m (cut (not (neg x)) (case m (neg "+s+")))) k)", "(cut (mu m (cut (not "+s+") m)) k)")
		}
	}
	return wrong
}

func TestProgramLimitsAreThoseTested(t *testing.T) {
	if impl.ProgramMax != 500 {
		t.Errorf("ProgramMax is %d", impl.ProgramMax)
	}
	lengths := map[int]bool{}
	for _, s := range wrongPrograms() {
		lengths[len(s)] = true
		if programKind(s) != "" {
			t.Errorf("%q is a program", s)
		}
	}
	if !lengths[impl.TextMax] || !lengths[impl.TextMax+1] {
		t.Errorf("no texts of just TextMax bytes, or of one more")
	}
	for i, s := range greatestPrograms() {
		if atoms := len(atomText.FindAllString(s, -1)); i < 4 && atoms != 500 || i >= 4 && nesting(s) != 200 {
			t.Errorf("%q has %d atoms and nesting %d", s, atoms, nesting(s))
		}
	}
}

func TestProgramKindOfPrograms(t *testing.T) {
	for s, want := range smallPrograms {
		if got := impl.ProgramKind(s); got != want {
			t.Errorf("ProgramKind of %q: %q", s, got)
		}
	}
	kinds := map[string]int{}
	for _, s := range somePrograms() {
		if got, want := impl.ProgramKind(s), programKind(s); got != want || got == "" {
			t.Errorf("ProgramKind of %q: %q, not %q", s, got, want)
		}
		kinds[impl.ProgramKind(s)]++
	}
	if len(kinds) != 3 || kinds["term"] < 50 || kinds["coterm"] < 50 || kinds["statement"] < 50 {
		t.Errorf("just %v", kinds)
	}
}

func TestWrongProgramsFailEverywhere(t *testing.T) {
	for _, s := range wrongPrograms() {
		if got := impl.ProgramKind(s); got != "" {
			t.Errorf("ProgramKind of %q: %q", s, got)
		}
		if got, ok := impl.ProgramFree(s); ok || len(got) != 0 {
			t.Errorf("ProgramFree of %q: %q, %v", s, got, ok)
		}
		if got, ok := impl.ProgramCanon(s); ok || got != "" {
			t.Errorf("ProgramCanon of %q: %q, %v", s, got, ok)
		}
		if impl.ProgramAlike(s, s) || impl.ProgramAlike(s, "x") || impl.ProgramAlike("x", s) || impl.ProgramAlike(s, "k") || impl.ProgramAlike(s, "") {
			t.Errorf("ProgramAlike of %q", s)
		}
		if n := impl.ProgramSize(s); n != -1 {
			t.Errorf("ProgramSize of %q: %d", s, n)
		}
		if impl.ProgramUses(s, "x") != -1 || impl.ProgramUses(s, "k") != -1 || impl.ProgramUses(s, s) != -1 {
			t.Errorf("ProgramUses of %q", s)
		}
		if got, ok := impl.ProgramDual(s); ok || got != "" {
			t.Errorf("ProgramDual of %q: %q, %v", s, got, ok)
		}
		// What is put fails whether the name is free or not, and what something is put into.
		for _, put := range [][3]string{{s, "x", "y"}, {s, "k", "l"}, {"x", "x", s}, {"x", "y", s}, {"k", "k", s}, {"x", "k", s}, {"(cut x k)", "x", s}, {"(cut x k)", "k", s}, {s, s, s}} {
			if got, ok := impl.ProgramPut(put[0], put[1], put[2]); ok || got != "" {
				t.Errorf("ProgramPut of %q: %q, %v", put, got, ok)
			}
		}
	}
}

// wrongNames are texts that are no variable and no covariable.
func wrongNames() []string {
	return []string{"", " ", "x ", " x", "(x)", "(k)", "x1234", "k0000", "X", "K", "a", "w", "n", "xx", "xk", "x1y", "1x", "x-", "*", "mu", "tmu", "pair", "(inl x)", "(cut x k)", "é", "x\xff", "x\x00", "x,k", strings.Repeat("x", impl.TextMax+1)}
}

func TestWrongNames(t *testing.T) {
	for _, n := range wrongNames() {
		if got := impl.ProgramUses("(cut x k)", n); got != -1 {
			t.Errorf("ProgramUses of %q: %d", n, got)
		}
		for _, by := range []string{"y", "l", "(cut x k)", n} {
			if got, ok := impl.ProgramPut("(cut x k)", n, by); ok || got != "" {
				t.Errorf("ProgramPut of %q for %q: %q, %v", by, n, got, ok)
			}
		}
	}
	for _, n := range []string{"x", "y9", "z99", "x999", "y000", "k", "l9", "m99", "k999", "m000"} {
		if got := impl.ProgramUses(n, n); got != 1 {
			t.Errorf("ProgramUses of %q in itself: %d", n, got)
		}
	}
}

// TestProgramKindOfChangedTexts holds texts with some bytes put in, taken out or replaced against a rewriting of the text.
func TestProgramKindOfChangedTexts(t *testing.T) {
	pieces := []string{"", "x", "k", "m", "w", "0", "9", "-", "(", ")", " ", "X", "z", "cut", "(x", "k)"}
	m := &maker{state: 22}
	taken := 0
	for _, s := range m.programs(90, 2) {
		for i := range s {
			for _, piece := range pieces {
				for _, changed := range []string{s[:i] + piece + s[i:], s[:i] + piece + s[i+1:]} {
					want := programKind(changed)
					if got := impl.ProgramKind(changed); got != want {
						t.Fatalf("ProgramKind of %q: %q, not %q", changed, got, want)
					}
					if want != "" {
						taken++
					}
				}
			}
		}
	}
	if taken < 1000 {
		t.Errorf("just %d changed texts are programs", taken)
	}
}

func TestProgramFree(t *testing.T) {
	for s, want := range map[string][]string{
		"x":                                     {"x"},
		"k":                                     {"k"},
		"(cut x k)":                             {"x", "k"},
		"(cut (pair y (pair x y)) (case l k))":  {"y", "x", "l", "k"},
		"(mu k (cut x k))":                      {"x"},
		"(mu k (cut x l))":                      {"x", "l"},
		"(tmu x (cut x k))":                     {"k"},
		"(mu k (cut (mu k (cut x k)) k))":       {"x"},
		"(pair (mu k (cut x k)) (not k))":       {"x", "k"},
		"(pair (not k) (mu k (cut x k)))":       {"k", "x"},
		"(cut (mu k (cut x k)) k)":              {"x", "k"},
		"(cut x (tmu x (cut x k)))":             {"x", "k"},
		"(tmu x (cut x (tmu y (cut x k))))":     {"k"},
		"(pair x0 (pair x (pair x00 (inl x))))": {"x0", "x", "x00"},
		"(mu k0 (cut (not k) (neg (not k00))))": {"k", "k00"},
		"(mu k (cut (not k) k))":                {},
		"(tmu x (cut x (neg x)))":               {},
	} {
		if got, ok := impl.ProgramFree(s); !ok || !slices.Equal(got, want) {
			t.Errorf("ProgramFree of %q: %q, %v", s, got, ok)
		}
	}
	for _, s := range somePrograms() {
		if got, ok := impl.ProgramFree(s); !ok || !slices.Equal(got, once(programFree(s))) {
			t.Errorf("ProgramFree of %q: %q, %v", s, got, ok)
		}
	}
}

func TestProgramCanon(t *testing.T) {
	for s, want := range map[string]string{
		"x":                 "x",
		"k00":               "k00",
		"(mu l (cut x l))":  "(mu k0 (cut x k0))",
		"(tmu z (cut z m))": "(tmu x0 (cut x0 m))",
		"(mu l (cut (mu m (cut (inl x) m)) (tmu z (cut z l))))": "(mu k0 (cut (mu k1 (cut (inl x) k1)) (tmu x0 (cut x0 k0))))",
		// One name bound within itself, and beside itself.
		"(mu k (cut (mu k (cut x k)) k))":              "(mu k0 (cut (mu k1 (cut x k1)) k0))",
		"(mu k1 (cut (mu k0 (cut (not k1) k0)) k1))":   "(mu k0 (cut (mu k1 (cut (not k0) k1)) k0))",
		"(tmu x (cut x (tmu x (cut x (neg x)))))":      "(tmu x0 (cut x0 (tmu x1 (cut x1 (neg x1)))))",
		"(pair (mu k (cut x k)) (mu k (cut x k)))":     "(pair (mu k0 (cut x k0)) (mu k1 (cut x k1)))",
		"(case (tmu y (cut x k)) (tmu y (cut y l)))":   "(case (tmu x0 (cut x k)) (tmu x1 (cut x1 l)))",
		"(mu k (cut x (tmu y (cut y (neg (not k))))))": "(mu k0 (cut x (tmu x0 (cut x0 (neg (not k0))))))",
		// Names that are free are left out, also where they stand elsewhere or later alone.
		"(mu l (cut x0 l))":                                   "(mu k0 (cut x0 k0))",
		"(mu l (cut x k0))":                                   "(mu k1 (cut x k0))",
		"(cut (mu l (cut x l)) k0)":                           "(cut (mu k1 (cut x k1)) k0)",
		"(tmu y (cut y (tmu z (cut (pair x1 x0) k))))":        "(tmu x2 (cut x2 (tmu x3 (cut (pair x1 x0) k))))",
		"(tmu y (cut y (tmu z (cut x1 k))))":                  "(tmu x0 (cut x0 (tmu x2 (cut x1 k))))",
		"(cut (mu k0 (cut x k0)) k0)":                         "(cut (mu k1 (cut x k1)) k0)",
		"(pair (not k1) (mu k1 (cut (mu k2 (cut x k2)) k1)))": "(pair (not k1) (mu k0 (cut (mu k2 (cut x k2)) k0)))",
		"(mu l (cut (pair x00 x) (case k00 k)))":              "(mu k0 (cut (pair x00 x) (case k00 k)))",
	} {
		if got, ok := impl.ProgramCanon(s); !ok || got != want {
			t.Errorf("ProgramCanon of %q: %q, %v", s, got, ok)
		}
	}
	for _, s := range somePrograms() {
		if got, ok := impl.ProgramCanon(s); !ok || got != canonText(tokenText.FindAllString(s, -1)) {
			t.Errorf("ProgramCanon of %q: %q, %v", s, got, ok)
		}
	}
}

// A canonical program has the same atoms and parentheses, so limits can end it only by long names, and there are never so many.
func TestProgramCanonOfManyNames(t *testing.T) {
	deep := around(62, "(mu k (cut ", "x", " k))")
	s := "(inl (pair " + deep + " " + deep + "))"
	got, ok := impl.ProgramCanon(s)
	if !ok || got != canonText(tokenText.FindAllString(s, -1)) || !strings.Contains(got, "(mu k123 (cut x k123))") {
		t.Errorf("ProgramCanon of 124 bound names: %q, %v", got, ok)
	}
	var free []string
	for i := range 100 {
		free = append(free, "k"+strings.TrimPrefix(string([]byte{'0' + byte(i/10), '0' + byte(i%10)}), "0"))
	}
	s = "(pair (not " + tree("case", free) + ") " + around(70, "(mu k0 (cut ", "x", " k0))") + ")"
	if got, ok := impl.ProgramCanon(s); !ok || !strings.Contains(got, "(mu k100 (cut (mu k101 ") || !strings.Contains(got, "(mu k169 (cut x k169))") || impl.ProgramSize(got) != impl.ProgramSize(s) {
		t.Errorf("ProgramCanon of 70 bound names beside k0 to k99: %q, %v", got, ok)
	}
}

func TestProgramAlike(t *testing.T) {
	for _, c := range []struct {
		a, b string
		want bool
	}{
		{"x", "x", true}, {"x", "y", false}, {"x", "k", false}, {"x0", "x00", false}, {"k", "k", true},
		{"(mu k (cut x k))", "(mu l7 (cut x l7))", true},
		{"(mu k (cut x k))", "(mu k (cut y k))", false},
		{"(mu k (cut x k))", "(mu k (cut x l))", false},
		{"(mu k (cut x l))", "(mu l (cut x l))", false},
		{"(mu k (cut x l))", "(mu m (cut x l))", true},
		{"(mu k (cut (mu l (cut (not k) l)) k))", "(mu l (cut (mu k (cut (not l) k)) l))", true},
		{"(mu k (cut (mu l (cut (not k) l)) k))", "(mu k (cut (mu l (cut (not l) l)) k))", false},
		{"(mu k (cut (mu l (cut (not l) l)) k))", "(mu k (cut (mu k (cut (not k) k)) k))", true},
		{"(mu k (cut x k))", "(tmu x (cut x k))", false},
		{"(tmu x (cut x k))", "(tmu y (cut y k))", true},
		{"(tmu x (cut y k))", "(tmu y (cut y k))", false},
		{"(pair x y)", "(pair y x)", false},
		{"(inl x)", "(inr x)", false},
		{"(mu k (cut (mu l (cut x l)) k0))", "(mu k1 (cut (mu k1 (cut x k1)) k0))", true},
		{"x", "", false}, {"", "", false}, {"x", "(x)", false},
	} {
		if impl.ProgramAlike(c.a, c.b) != c.want || impl.ProgramAlike(c.b, c.a) != c.want {
			t.Errorf("ProgramAlike of %q and %q is not %v", c.a, c.b, c.want)
		}
	}
	some := somePrograms()
	for i, s := range some {
		// Numbers of what is bound are the same just for what is alike.
		numbered := join(numberBound(tokenText.FindAllString(s, -1)))
		for _, other := range some[i:min(i+40, len(some))] {
			if want := numbered == join(numberBound(tokenText.FindAllString(other, -1))); impl.ProgramAlike(s, other) != want {
				t.Errorf("ProgramAlike of %q and %q is not %v", s, other, want)
			}
		}
	}
}

func TestProgramPut(t *testing.T) {
	for _, c := range []struct{ s, name, by, want string }{
		{"x", "x", "(inl y)", "(inl y)"},
		{"x", "y", "(inl y)", "x"},
		{"k", "k", "(fst k)", "(fst k)"},
		{"(pair x x)", "x", "(pair x y)", "(pair (pair x y) (pair x y))"},
		{"(cut x k)", "k", "(tmu y (cut y l))", "(cut x (tmu x0 (cut x0 l)))"},
		{"(cut (pair x y) (case k l))", "y", "x", "(cut (pair x x) (case k l))"},
		// The name is bound where it stands, or in a part.
		{"(mu k (cut x k))", "k", "l", "(mu k0 (cut x k0))"},
		{"(cut (mu k (cut x k)) k)", "k", "l", "(cut (mu k0 (cut x k0)) l)"},
		{"(cut x (tmu x (cut x k)))", "x", "(inl x)", "(cut (inl x) (tmu x0 (cut x0 k)))"},
		{"(mu k (cut (mu l (cut x k)) l))", "l", "(fst k)", "(mu k0 (cut (mu k1 (cut x k0)) (fst k)))"},
		// What is put has a free name that is bound around the place.
		{"(tmu y (cut x k))", "x", "y", "(tmu x0 (cut y k))"},
		{"(tmu y (cut (pair x y) k))", "x", "y", "(tmu x0 (cut (pair y x0) k))"},
		{"(tmu x0 (cut (pair x x0) k))", "x", "x0", "(tmu x1 (cut (pair x0 x1) k))"},
		{"(mu k (cut x l))", "l", "k", "(mu k0 (cut x k))"},
		{"(mu k0 (cut (not k0) l))", "l", "(neg (not k0))", "(mu k1 (cut (not k1) (neg (not k0))))"},
		{"(tmu y (cut y (tmu y (cut (pair x y) k))))", "x", "(inl y)", "(tmu x0 (cut x0 (tmu x1 (cut (pair (inl y) x1) k))))"},
		{"(mu k (cut (mu l (cut x m)) m))", "m", "(case k l)", "(mu k0 (cut (mu k1 (cut x (case k l))) (case k l)))"},
		{"(mu k (cut x l))", "x", "(mu k (cut y k))", "(mu k0 (cut (mu k1 (cut y k1)) l))"},
		{"(mu k (cut (not k) (neg x)))", "x", "(not k)", "(mu k0 (cut (not k0) (neg (not k))))"},
		// What is put binds names itself, at each place anew.
		{"(pair x x)", "x", "(mu k (cut y k))", "(pair (mu k0 (cut y k0)) (mu k1 (cut y k1)))"},
		{"(mu l (cut (pair x x) l))", "x", "(mu l (cut (not l) l1))", "(mu k0 (cut (pair (mu k1 (cut (not k1) l1)) (mu k2 (cut (not k2) l1))) k0))"},
		// Names left out are those that are free in the result: no longer what is put for, or not what is nowhere put.
		{"(mu l (cut x0 l))", "x0", "y", "(mu k0 (cut y k0))"},
		{"(tmu y (cut (pair x0 y) k))", "x0", "z", "(tmu x0 (cut (pair z x0) k))"},
		{"(tmu y (cut (pair x0 y) k))", "x0", "x1", "(tmu x0 (cut (pair x1 x0) k))"},
		{"(tmu y (cut (pair x0 y) k))", "x0", "(pair x0 x1)", "(tmu x2 (cut (pair (pair x0 x1) x2) k))"},
		{"(tmu y (cut y k))", "x", "x0", "(tmu x0 (cut x0 k))"},
		{"(tmu x (cut x k))", "x", "x0", "(tmu x0 (cut x0 k))"},
		{"(mu l (cut x k0))", "k0", "k1", "(mu k0 (cut x k1))"},
		// A name for itself.
		{"(mu l (cut (not k) l))", "k", "k", "(mu k0 (cut (not k) k0))"},
		{"(cut x0 (tmu y (cut y k)))", "x0", "x0", "(cut x0 (tmu x1 (cut x1 k)))"},
	} {
		if got, ok := impl.ProgramPut(c.s, c.name, c.by); !ok || got != c.want {
			t.Errorf("ProgramPut of %q for %q in %q: %q, %v, not %q", c.by, c.name, c.s, got, ok, c.want)
		}
	}
}

// somePuts are programs with a name and what may be put for it.
func somePuts() [][3]string {
	m := &maker{state: 23}
	var puts [][3]string
	for _, s := range m.programs(2500, 4) {
		if m.below(2) == 0 {
			puts = append(puts, [3]string{s, fewVariables[m.below(5)], m.program("term", 2)})
		} else {
			puts = append(puts, [3]string{s, fewCovariables[m.below(5)], m.program("coterm", 2)})
		}
	}
	return puts
}

func TestProgramPutOfMany(t *testing.T) {
	captured := 0
	for _, c := range somePuts() {
		want := putText(c[0], c[1], c[2])
		if programKind(want) == "" {
			want = ""
		}
		if got, ok := impl.ProgramPut(c[0], c[1], c[2]); ok != (want != "") || got != want {
			t.Errorf("ProgramPut of %q: %q, %v, not %q", c, got, ok, want)
		}
		if plain := putPlainly(c[0], c[1], c[2]); want != "" && canonText(tokenText.FindAllString(plain, -1)) != want {
			captured++
		}
	}
	if captured < 50 {
		t.Errorf("just %d names would be captured", captured)
	}
}

func TestProgramPutLimits(t *testing.T) {
	full := tree("pair", slices.Repeat([]string{"y"}, 249)) // 497 atoms
	cofull := tree("case", slices.Repeat([]string{"l"}, 249))
	half := tree("pair", slices.Repeat([]string{"y"}, 125)) // 249 atoms
	deep := around(150, "(inl ", "y", ")")
	for _, c := range []struct {
		s, name, by string
		want        bool
	}{
		{"(cut x k)", "x", full, true}, {"(cut x (fst k))", "x", full, true}, {"(cut x (fst (fst k)))", "x", full, false},
		{"(inl (inl (inl x)))", "x", full, true}, {"(inl (inl (inl (inl x))))", "x", full, false},
		{"(snd (snd (snd k)))", "k", cofull, true}, {"(snd (snd (snd (snd k))))", "k", cofull, false},
		{"(inl (pair x x))", "x", half, true}, {"(inl (inl (pair x x)))", "x", half, false}, {"(pair x (pair x x))", "x", half, false},
		{"(inl (inl (inl (inl x))))", "y", full, true}, {"(mu k (cut x k))", "k", cofull, true},
		{half, "y", half, false}, {full, "y", full, false}, {full, "y", "y", true}, {full, "y", "(inl y)", false}, {full, "x", full, true},
		{around(50, "(inl ", "x", ")"), "x", deep, true}, {around(51, "(inl ", "x", ")"), "x", deep, false},
		{around(51, "(inl ", "x", ")"), "y", deep, true}, {around(51, "(inl ", "x", ")"), "x", around(149, "(inl ", "x", ")"), true},
		{around(25, "(mu k (cut ", "x", " k))"), "x", deep, true}, {around(25, "(mu k (cut ", "(inl x)", " k))"), "x", deep, false},
		{"(neg " + around(199, "(inl ", "x", ")") + ")", "x", "z999", true}, {"(neg " + around(199, "(inl ", "x", ")") + ")", "x", "(inl z)", false},
		{around(199, "(fst ", "k", ")"), "k", "(snd k)", true}, {around(200, "(fst ", "k", ")"), "k", "(snd k)", false}, {around(200, "(fst ", "k", ")"), "l", "(snd k)", true},
	} {
		got, ok := impl.ProgramPut(c.s, c.name, c.by)
		if want := putText(c.s, c.name, c.by); ok != c.want || ok && got != want || !ok && got != "" || (programKind(want) != "") != c.want {
			t.Errorf("ProgramPut of %.60q for %q in %.60q: %q, %v", c.by, c.name, c.s, got, ok)
		}
	}
}

func TestProgramPutOfWrongKinds(t *testing.T) {
	for _, s := range []string{"x", "k", "(cut x k)", "(mu k (cut x k))", "(tmu x (cut x k))"} {
		for _, c := range [][2]string{{"x", "k"}, {"x", "(fst k)"}, {"x", "(cut x k)"}, {"x", "(tmu x (cut x k))"}, {"z9", "l"}, {"k", "x"}, {"k", "(inl x)"}, {"k", "(cut x k)"}, {"k", "(mu k (cut x k))"}, {"m9", "y"}, {"x", ""}, {"k", ""}, {"", "x"}, {"", "k"}, {"", ""}} {
			if got, ok := impl.ProgramPut(s, c[0], c[1]); ok || got != "" {
				t.Errorf("ProgramPut of %q for %q in %q: %q, %v", c[1], c[0], s, got, ok)
			}
		}
	}
}

func TestProgramSize(t *testing.T) {
	for s, want := range map[string]int{"x": 1, "k999": 1, "(cut x k)": 3, "(mu k (cut x k))": 5, "(case k (tmu x (cut (inl x) l)))": 8} {
		if got := impl.ProgramSize(s); got != want {
			t.Errorf("ProgramSize of %q: %d", s, got)
		}
	}
	for _, s := range somePrograms() {
		if got, want := impl.ProgramSize(s), len(atomText.FindAllString(s, -1)); got != want {
			t.Errorf("ProgramSize of %q: %d, not %d", s, got, want)
		}
	}
}

func TestProgramUses(t *testing.T) {
	for _, c := range []struct {
		s, name string
		want    int
	}{
		{"x", "x", 1}, {"x", "y", 0}, {"x", "k", 0}, {"k", "k", 1}, {"x0", "x", 0}, {"x00", "x0", 0},
		{"(pair x (pair y x))", "x", 2}, {"(cut (pair x x) (neg x))", "x", 3}, {"(case k (case k l))", "k", 2},
		{"(mu k (cut x k))", "k", 0}, {"(mu k (cut x k))", "x", 1}, {"(cut (mu k (cut x k)) k)", "k", 1}, {"(cut (mu k (cut (not k) l)) (case k k))", "k", 2},
		{"(tmu x (cut x (tmu y (cut x k))))", "x", 0}, {"(tmu y (cut x (tmu x (cut x k))))", "x", 1}, {"(mu k (cut x (tmu x (cut x k))))", "x", 1},
	} {
		if got := impl.ProgramUses(c.s, c.name); got != c.want {
			t.Errorf("ProgramUses of %q in %q: %d", c.name, c.s, got)
		}
	}
	for _, s := range somePrograms() {
		free := programFree(s)
		for _, n := range append(slices.Concat(fewVariables, fewCovariables), "x999", "m000", "z") {
			if got := impl.ProgramUses(s, n); got != count(free, n) {
				t.Errorf("ProgramUses of %q in %q: %d", n, s, got)
			}
		}
	}
}

func TestProgramDual(t *testing.T) {
	for s, want := range map[string]string{
		"x": "k", "y": "l", "z": "m", "k": "x", "l": "y", "m": "z", "x09": "k09", "m999": "z999",
		"(pair x y)": "(case k l)", "(inl x)": "(fst k)", "(inr x)": "(snd k)", "(not k)": "(neg x)", "(mu l (cut x l))": "(tmu y (cut y k))",
		"(case k l)": "(pair x y)", "(fst k)": "(inl x)", "(snd k)": "(inr x)", "(neg x)": "(not k)", "(tmu z7 (cut z7 k))": "(mu m7 (cut x m7))",
		"(cut x l)": "(cut y k)",
		"(cut (mu k (cut (inl x) k)) (tmu y (cut z (snd m))))": "(cut (mu l (cut (inr z) m)) (tmu x (cut x (fst k))))",
		"(case (neg (inl x0)) (fst k1))":                       "(pair (not (fst k0)) (inl x1))",
	} {
		if got, ok := impl.ProgramDual(s); !ok || got != want {
			t.Errorf("ProgramDual of %q: %q, %v", s, got, ok)
		}
	}
	for _, s := range somePrograms() {
		if got, ok := impl.ProgramDual(s); !ok || got != dualText(s) {
			t.Errorf("ProgramDual of %q: %q, %v", s, got, ok)
		}
	}
}

func TestProgramFreeIsNewMemory(t *testing.T) {
	for range 2 {
		free, ok := impl.ProgramFree("(cut (pair y (pair x y)) (case l k))")
		if !ok || !slices.Equal(free, []string{"y", "x", "l", "k"}) {
			t.Fatalf("ProgramFree returned %q, %v", free, ok)
		}
		for i := range free[:cap(free)] {
			free[:cap(free)][i] = "z"
		}
	}
}
