package tests

import (
	"slices"
	"strconv"
	"strings"
	"testing"

	"loop.example/classicalcontrol/impl"
)

// typing writes a typing shortly: names and types in turn, and the type of the whole last.
func typing(texts ...string) impl.Typing {
	y := impl.Typing{Type: texts[len(texts)-1]}
	for i := 0; i+1 < len(texts); i += 2 {
		y.Names = append(y.Names, texts[i])
		y.Types = append(y.Types, texts[i+1])
	}
	return y
}

// has asks TypeHas for a whole typing.
func has(s string, y impl.Typing) bool {
	return impl.TypeHas(s, y.Names, y.Types, y.Type)
}

// formTypings are the principal typings of programs of each form.
var formTypings = map[string]impl.Typing{
	"x":                 typing("x", "a", "a"),
	"m09":               typing("m09", "a", "a"),
	"(pair y x)":        typing("y", "a", "x", "b", "(* a b)"),
	"(pair x x)":        typing("x", "a", "(* a a)"),
	"(inl x)":           typing("x", "a", "(+ a b)"),
	"(inr x)":           typing("x", "a", "(+ b a)"),
	"(not k)":           typing("k", "a", "(- a)"),
	"(mu k (cut x k))":  typing("x", "a", "a"),
	"(case l k)":        typing("l", "a", "k", "b", "(+ a b)"),
	"(fst k)":           typing("k", "a", "(* a b)"),
	"(snd k)":           typing("k", "a", "(* b a)"),
	"(neg x)":           typing("x", "a", "(- a)"),
	"(tmu x (cut x k))": typing("k", "a", "a"),
	"(cut x k)":         typing("x", "a", "k", "a", ""),
	// Letters stand in the order of the names, and of the whole at last.
	"(cut (pair x y) (fst k))":        typing("x", "a", "y", "b", "k", "a", ""),
	"(cut (pair x y) (snd k))":        typing("x", "a", "y", "b", "k", "b", ""),
	"(cut (pair x y) k)":              typing("x", "a", "y", "b", "k", "(* a b)", ""),
	"(cut x (case l k))":              typing("x", "(+ a b)", "l", "a", "k", "b", ""),
	"(cut (inr x) k)":                 typing("x", "a", "k", "(+ b a)", ""),
	"(cut x (snd k))":                 typing("x", "(* a b)", "k", "b", ""),
	"(cut (inl x) (case k l))":        typing("x", "a", "k", "a", "l", "b", ""),
	"(cut (inr x) (case k l))":        typing("x", "a", "k", "b", "l", "a", ""),
	"(cut (not k) (neg x))":           typing("k", "a", "x", "a", ""),
	"(pair (inr x) (inl y))":          typing("x", "a", "y", "b", "(* (+ c a) (+ b d))"),
	"(case (fst k) (neg (not l)))":    typing("k", "a", "l", "b", "(+ (* a c) (- (- b)))"),
	"(cut x (tmu y (cut (inl x) k)))": typing("x", "a", "k", "(+ a b)", ""),
	"(cut x (neg (mu m (cut y l))))":  typing("x", "(- a)", "y", "b", "l", "b", ""),
	// No names at all: proofs of formulas.
	"(mu k (cut (inr (not (tmu x (cut (inl x) k)))) k))":                       typing("(+ a (- a))"),
	"(not (tmu x (cut x (fst (tmu y (cut x (snd (neg y))))))))":                typing("(- (* a (- a)))"),
	"(tmu x (cut x (fst (tmu y (cut x (snd (neg y)))))))":                      typing("(* a (- a))"),
	"(not (tmu z (cut z (snd (neg (mu k (cut z (fst (tmu x (cut x k))))))))))": typing("(- (* a (- a)))"),
}

// boundTypings are those of programs whose bound names stand elsewhere, too, or nowhere.
var boundTypings = map[string]impl.Typing{
	// Bound names that are also free, ahead or behind.
	"(cut (mu k (cut (inl x) k)) k)":                           typing("x", "a", "k", "(+ a b)", ""),
	"(cut (mu k (cut x k)) (fst k))":                           typing("x", "(* a b)", "k", "a", ""),
	"(pair x (not (tmu x (cut x (neg y)))))":                   typing("x", "a", "y", "b", "(* a (- (- b)))"),
	"(pair (not (tmu x (cut x (neg y)))) x)":                   typing("y", "a", "x", "b", "(* (- (- a)) b)"),
	"(case (tmu x (cut x (neg y))) (neg x))":                   typing("y", "a", "x", "b", "(+ (- a) (- b))"),
	"(cut x (tmu x (cut (not k) (neg x))))":                    typing("x", "a", "k", "a", ""),
	"(cut (not (tmu x (cut x (neg x1)))) (neg x))":             typing("x1", "a", "x", "(- a)", ""),
	"(cut (inl x) (case (tmu x (cut x k)) (tmu y (cut x k))))": typing("x", "a", "k", "a", ""),
	"(pair (mu k (cut (inl x) k)) (mu k (cut (not k1) k)))":    typing("x", "a", "k1", "b", "(* (+ a c) (- b))"),
	// The same name bound within itself: each one has a type of its own.
	"(mu k (cut (not k) (neg (mu k (cut x k)))))":                   typing("x", "a", "a"),
	"(mu k (cut (mu k (cut x k)) (tmu y (cut (inl y) k))))":         typing("x", "a", "(+ a b)"),
	"(mu k (cut (inl (mu k (cut (not l) k))) k))":                   typing("l", "a", "(+ (- a) b)"),
	"(tmu x (cut x (fst (tmu x (cut x (fst (tmu x (cut x k))))))))": typing("k", "a", "(* (* a b) c)"),
	// Bound names that are not used are of any type.
	"(mu k (cut x l))":                                        typing("x", "a", "l", "a", "b"),
	"(tmu x (cut y k))":                                       typing("y", "a", "k", "a", "b"),
	"(cut (mu m (cut x k)) (neg y))":                          typing("x", "a", "k", "a", "y", "b", ""),
	"(mu m (cut x (tmu z (cut y k))))":                        typing("x", "a", "y", "b", "k", "b", "c"),
	"(mu k (cut (mu k (cut x l)) k))":                         typing("x", "a", "l", "a", "b"),
	"(mu k (cut (mu k (cut x k)) l))":                         typing("x", "a", "l", "a", "b"),
	"(pair (mu m (cut x k)) (mu m (cut x k)))":                typing("x", "a", "k", "a", "(* b c)"),
	"(case (tmu z (cut x k)) (tmu z (cut y l)))":              typing("x", "a", "k", "a", "y", "b", "l", "b", "(+ c d)"),
	"(cut (mu m (cut x k)) (case l (fst (tmu z (cut y l)))))": typing("x", "a", "k", "a", "l", "b", "y", "b", ""),
}

// ring are statements by which a type is in itself through as many parts, if all of them stand beside each other.
func ring(count int) []string {
	var statements []string
	for i := range count {
		here, next := strconv.Itoa(i), strconv.Itoa((i+1)%count)
		statements = append(statements, "(cut (inl x"+here+") k"+here+")", "(cut x"+next+" k"+here+")")
	}
	return statements
}

// inThemselves are programs without a typing, as a type would be a part of itself.
func inThemselves() []string {
	return []string{
		"(cut x (neg x))", "(cut (not k) k)", "(cut (inl x) (case (neg x) k))", "(cut (pair x y) (fst (neg x)))", "(cut (pair x y) (snd (neg y)))",
		"(mu k (cut (not k) k))", "(tmu x (cut x (neg x)))", "(mu k (cut (pair (not k) x) k))", "(tmu x (cut x (case k (fst (neg x)))))",
		"(cut (mu l (cut (not k) l)) k)", "(cut x (tmu y (cut (inr y) (case l (neg x)))))",
		// Through several parts, each of which has a type without the others.
		"(mu k (cut (inl (mu l (cut (inr (not k)) l))) k))", "(not (tmu x (cut x (neg (mu k (cut (inr x) k))))))", "(cut x (fst (tmu y (cut y (neg x)))))",
		beside("(cut (inl x) k)", "(cut x (snd k))"), beside("(cut (inl x) k)", "(cut (not k) l)", "(cut x (fst l))"),
		"(cut x " + around(50, "(neg (not ", "(neg x)", "))") + ")", beside(ring(1)...), beside(ring(2)...), beside(ring(25)...),
		// Through a name that stands free more than once, or twice in one part.
		beside("(cut x k)", "(cut (inr x) k)"), beside("(cut x k)", "(cut x (neg y))", "(cut y k)"), beside("(cut (pair x (inl x)) k)", "(cut (pair y y) k)"), beside("(cut z (case k k))", "(cut z (case l (fst l)))"),
		// Through types to which no free name leads.
		"(cut (mu l (cut (not l) l)) k)", "(cut x (tmu y (cut (mu k (cut (not k) k)) (tmu z (cut y l)))))", beside("(cut x k)", "(cut (mu l (cut (not l) l)) (tmu y (cut z m)))"), "(mu m (cut (mu k (cut (inl (not k)) (case k l))) (tmu z (cut x m))))",
		// Two of them that are the same.
		beside("(cut x (neg x))", "(cut y (neg y))", "(cut x k)", "(cut y k)"), beside("(cut x k)", "(cut y k)", "(cut x (neg y))", "(cut y (neg x))"), beside("(cut (not k) k)", "(cut (not (neg (not l))) l)", "(cut x l)", "(cut x k)"),
		beside("(cut (inl x) (case (fst (neg x)) l))", "(cut x (fst k))"), beside("(cut (pair x y) (tmu z (cut x (fst (tmu z1 (cut z k))))))", "(cut x k)"),
	}
}

// clashing are programs without a typing, as a type would have two signs.
func clashing() []string {
	fit := []string{"(pair x y)(fst k)", "(pair x y)(snd k)", "(inl x)(case k l)", "(inr x)(case k l)", "(not k1)(neg x1)"}
	var clash []string
	for _, m := range []string{"(pair x y)", "(inl x)", "(inr x)", "(not k1)"} {
		for _, k := range []string{"(fst k)", "(snd k)", "(case k l)", "(neg x1)"} {
			if !slices.Contains(fit, m+k) {
				clash = append(clash, "(cut "+m+" "+k+")", "(mu m (cut (mu m "+beside("(cut "+m+" m)", "(cut z m)", "(cut z "+k+")")+") m))", "(cut (not "+k+") (neg "+m+"))", "(tmu z (cut (inl (inr "+m+")) (case (case m "+k+") m)))")
			}
		}
	}
	return append(clash, beside("(cut x (neg y))", "(cut x (fst k))"), "(pair (mu l (cut x (fst l))) (mu l (cut x (case l l))))", beside("(cut (pair x y) k)", "(cut (inl x) k)"))
}

// distinct returns x0, x1 and so on.
func distinct(count int) []string {
	var names []string
	for i := range count {
		names = append(names, "x"+strconv.Itoa(i))
	}
	return names
}

// doubled puts a statement behind so many pairs of what is bound: the type of x in it has 2 to this power of letters.
func doubled(times int, statement string) string {
	return around(times, "(cut (pair x x) (tmu x ", statement, "))")
}

// typable are many programs that have a typing.
func typable() []string {
	var some []string
	for _, s := range somePrograms() {
		if _, ok := typingText(s); ok {
			some = append(some, s)
		}
	}
	for s := range formTypings {
		some = append(some, s)
	}
	for s := range boundTypings {
		some = append(some, s)
	}
	slices.Sort(some)
	m := &maker{state: 31}
	for _, p := range append(m.typedPrograms(300, 4), m.typedPrograms(150, 6)...) {
		if _, ok := typingText(p.text); ok {
			some = append(some, p.text)
		}
	}
	return append(some, doubled(11, "(cut y k)"), beside(ring(25)[:49]...), manyLetters(60))
}

// manyLetters is a statement with as many letters in its principal typing.
func manyLetters(count int) string {
	var statements []string
	for i := range count {
		statements = append(statements, "(cut x"+strconv.Itoa(i)+" l"+strconv.Itoa(i)+")")
	}
	return beside(statements...)
}

func TestTypeOfForms(t *testing.T) {
	for _, table := range []map[string]impl.Typing{formTypings, boundTypings} {
		for s, want := range table {
			if got, ok := impl.TypeOf(s); !ok || !sameTyping(got, want) {
				t.Errorf("TypeOf of %q: %q, %v", s, got, ok)
			}
			if !impl.TypeIs(s) || !has(s, want) {
				t.Errorf("%q has not the typing %q", s, want)
			}
		}
	}
}

func TestTypeOfMany(t *testing.T) {
	m := &maker{state: 32}
	some := slices.Concat(somePrograms(), typable(), m.programs(1500, 4))
	kinds := map[string]int{}
	for _, s := range some {
		want, okWant := typingText(s)
		if got, ok := impl.TypeOf(s); ok != okWant || !sameTyping(got, want) {
			t.Errorf("TypeOf of %q: %q, %v, not %q", s, got, ok, want)
		}
		if impl.TypeIs(s) != okWant {
			t.Errorf("TypeIs of %q is not %v", s, okWant)
		}
		if okWant {
			kinds[programKind(s)]++
		} else {
			kinds["none"]++
		}
	}
	if kinds["term"] < 200 || kinds["coterm"] < 200 || kinds["statement"] < 200 || kinds["none"] < 200 {
		t.Errorf("just %v", kinds)
	}
}

func TestTypesInThemselves(t *testing.T) {
	for _, s := range append(inThemselves(), clashing()...) {
		if programKind(s) == "" {
			t.Fatalf("%q is no program", s)
		}
		for _, text := range []string{s, dualText(s), canonText(tokenText.FindAllString(s, -1))} {
			if got, ok := impl.TypeOf(text); ok || !emptyTyping(got) {
				t.Errorf("TypeOf of %q: %q, %v", text, got, ok)
			}
			if left, right, ok := impl.TypeSequent(text); ok || len(left) != 0 || len(right) != 0 {
				t.Errorf("TypeSequent of %q: %q, %q, %v", text, left, right, ok)
			}
			if impl.TypeIs(text) {
				t.Errorf("TypeIs of %q", text)
			}
			names := once(programFree(text))
			for _, of := range []string{"a", "(- a)", "(* a a)", "(+ a a)"} {
				for _, whole := range []string{"", of} {
					if impl.TypeHas(text, names, slices.Repeat([]string{of}, len(names)), whole) {
						t.Errorf("TypeHas of %q with %q", text, of)
					}
				}
			}
		}
	}
}

// TestTypesInThemselvesNeedAllParts takes each statement of a ring away, and puts them in other orders.
func TestTypesInThemselvesNeedAllParts(t *testing.T) {
	for _, statements := range [][]string{ring(2), ring(3), ring(25), {"(cut (inl x) k)", "(cut (not k) l)", "(cut x (fst l))"}, {"(cut x k)", "(cut x (neg y))", "(cut y k)"}} {
		for i := range statements {
			rest := slices.Concat(statements[i+1:], statements[:i])
			if s := beside(rest...); !impl.TypeIs(s) {
				t.Errorf("TypeIs of %q does not hold", s)
			}
			turned := slices.Concat(statements[i:], statements[:i])
			slices.Reverse(rest)
			for _, s := range []string{beside(turned...), beside(append(rest, statements[i])...)} {
				if impl.TypeIs(s) {
					t.Errorf("TypeIs of %q", s)
				}
			}
		}
	}
	// Names bound within each other are not the same.
	for _, s := range []string{"(cut x (tmu x1 (cut (not k) (neg x))))", "(mu k (cut (not l) (neg (mu l (cut x l)))))", "(cut (pair x x) (fst (tmu y (cut y (neg z)))))", "(tmu x (cut x (neg (mu k (cut y (tmu x (cut x k)))))))"} {
		if !impl.TypeIs(s) {
			t.Errorf("TypeIs of %q does not hold", s)
		}
	}
}

func TestTypeOfLimits(t *testing.T) {
	sixty, more := tree("pair", append(distinct(29), "(not k999)")), tree("pair", distinct(31))
	sixtyNots, moreNots := around(29, "(not (neg ", "(not k)", "))"), around(30, "(not (neg ", "x", "))")
	for _, c := range []struct {
		s    string
		want int // atoms of the greatest type, or -1
	}{
		{sixty, 60}, {more, -1}, {sixtyNots, 60}, {moreNots, -1}, {"(inl " + sixty + ")", -1}, {"(not (neg " + moreNots + "))", -1},
		{"(cut " + sixty + " k)", 60}, {"(cut " + more + " k)", -1}, {"(cut " + sixty + " (fst k))", 29}, {"(cut " + sixtyNots + " m)", 60}, {"(cut " + moreNots + " m)", -1},
		{"(cut " + moreNots + " (neg z))", 60}, {"(cut (not (neg " + moreNots + ")) (neg z))", -1}, {"(cut " + moreNots + " (neg (mu l (cut x1 l))))", 60}, {"(cut " + sixtyNots + " (neg z))", 59},
		{"(pair x (mu k (cut " + sixty + " l)))", 60}, {"(pair x (mu k (cut " + more + " l)))", -1},
		{tree("pair", slices.Repeat([]string{"y"}, 30)), 59}, {tree("pair", slices.Repeat([]string{"y"}, 31)), -1}, {"(inl (inl " + tree("pair", slices.Repeat([]string{"y"}, 28)) + "))", 59},
		{doubled(4, "(cut (not (neg x)) k)"), 33}, {doubled(4, "(cut x k)"), 31}, {doubled(5, "(cut x k)"), -1}, {doubled(4, "(cut (pair x (inl (inl (inl y)))) k)"), 39},
		// A part may be larger than the types of the typing.
		{"(cut (pair " + more + " y) (snd k))", 1}, {"(mu k (cut (pair " + tree("pair", slices.Repeat([]string{"y"}, 100)) + " z) (snd k)))", 1}, {"(cut " + more + " (tmu y (cut z k)))", 1},
		{doubled(5, "(cut y k)"), 1}, {doubled(11, "(cut y k)"), 1}, {doubled(11, "(cut x k)"), -1}, {"(not (tmu x " + doubled(11, "(cut y k)") + "))", 2}, {"(cut y (tmu x " + doubled(11, "(cut y (neg (mu l (cut x l))))") + "))", -1},
	} {
		for _, s := range []string{c.s, dualText(c.s)} {
			got, ok := impl.TypeOf(s)
			if want, okWant := typingText(s); ok != okWant || !sameTyping(got, want) || ok != (c.want > 0) || impl.TypeIs(s) != ok {
				t.Errorf("TypeOf of %q: %q, %v", s, got, ok)
			}
			if !ok {
				continue
			}
			greatest := impl.FormulaSize(got.Type)
			for _, of := range got.Types {
				greatest = max(greatest, impl.FormulaSize(of))
			}
			if greatest != c.want {
				t.Errorf("TypeOf of %q: %q, with a type of %d atoms, not %d", s, got, greatest, c.want)
			}
			if !has(s, got) {
				t.Errorf("TypeHas of %q does not hold for %q", s, got)
			}
		}
	}
}

// Programs with parts of far more atoms than are asked still come to an end.
func TestTypesOfGreatPartsEnd(t *testing.T) {
	for _, s := range []string{doubled(75, "(cut x k)"), doubled(75, "(cut y k)"), doubled(75, "(cut (pair x x) (fst k))"), beside(doubled(35, "(cut x k)"), doubled(35, "(cut x k)")), beside(doubled(35, "(cut x k)"), doubled(36, "(cut x k)"))} {
		if programKind(s) == "" {
			t.Fatalf("%q is no program", s)
		}
		impl.TypeOf(s)
		impl.TypeIs(s)
		impl.TypeSequent(s)
		impl.TypeHas(s, []string{"x", "y", "k"}, []string{"a", "b", "b"}, "")
		impl.TypeHas(s, []string{"x", "y", "k"}, []string{nots(59, "a"), nots(59, "b"), "c"}, "")
	}
}

func TestTypeOfManyLetters(t *testing.T) {
	want := "a b c d e f g h i j k l m n o p q r s t u v w x y z a1 b1 c1 d1 e1 f1 g1 h1 i1 j1 k1 l1 m1 n1 o1 p1 q1 r1 s1 t1 u1 v1 w1 x1 y1 z1 a2 b2 c2 d2 e2 f2 g2 h2"
	s := manyLetters(60)
	got, ok := impl.TypeOf(s)
	if !ok || len(got.Types) != 120 || strings.Join(once(got.Types), " ") != want || !slices.IsSortedFunc(got.Types, func(a, b string) int { return slices.Index(typeLetters, a) - slices.Index(typeLetters, b) }) {
		t.Errorf("TypeOf of %q: %q, %v", s, got, ok)
	}
	for count, last := range map[int]string{25: "y", 26: "z", 27: "a1", 28: "b1", 52: "z1", 53: "a2"} {
		if got, ok := impl.TypeOf(manyLetters(count)); !ok || got.Types[len(got.Types)-1] != last {
			t.Errorf("the last one of %d letters: %q, %v", count, got.Types, ok)
		}
	}
	// The letters of the whole come last.
	s = "(pair (inr x0) (pair " + tree("pair", distinct(25)) + " (inl x24)))"
	if got, ok := impl.TypeOf(s); !ok || !strings.HasPrefix(got.Type, "(* (+ z a) (* ") || !strings.HasSuffix(got.Type, " (+ y a1)))") || !slices.Equal(got.Types, typeLetters[:25]) {
		t.Errorf("TypeOf of %q: %q, %v", s, got, ok)
	}
	// Twice as many letters: z3 and a4 stand in them.
	var statements []string
	for i := range 52 {
		statements = append(statements, "(cut (inl x"+strconv.Itoa(i)+") l"+strconv.Itoa(i)+")")
	}
	s = beside(statements...)
	if got, ok := impl.TypeOf(s); !ok || !slices.Contains(got.Types, "(+ y3 z3)") || got.Types[0] != "a" || got.Types[27] != "(+ a1 b1)" {
		t.Errorf("TypeOf of %q: %q, %v", s, got, ok)
	}
}

func TestTypeHas(t *testing.T) {
	closed := "(mu k (cut (inr (not (tmu x (cut (inl x) k)))) k))"
	for _, c := range []struct {
		s            string
		names, types string
		whole        string
		want         bool
	}{
		{"(cut x k)", "x k", "a,a", "", true}, {"(cut x k)", "x k", "a,b", "", false}, {"(cut x k)", "x k", "z99,z99", "", true}, {"(cut x k)", "x k", "(* a b),(* a b)", "", true}, {"(cut x k)", "x k", "(* a b),(* b a)", "", false}, {"(cut x k)", "x k", "a1,a01", "", false},
		// The names in any order, beyond the free ones, left out, and twice.
		{"(cut x k)", "k x", "a,a", "", true}, {"(cut (pair x y) k)", "k y x", "(* a b),b,a", "", true}, {"(cut (pair x y) k)", "k y x", "(* a b),a,b", "", false},
		{"(cut x k)", "x k y", "a,a,b", "", true}, {"(cut x k)", "m0 x y k x0", "b,a,(- a),a,c", "", true}, {"(cut x k)", "m0 x y k x0", "a,b,a,a,a", "", false}, {"x", "x0 x x00", "b,a,c", "a", true},
		{"(cut x k)", "x", "a", "", false}, {"(cut x k)", "k", "a", "", false}, {"(cut x k)", "", "", "", false}, {"(cut x k)", "y l", "a,a", "", false}, {"(cut x k)", "x l", "a,a", "", false}, {"(cut x0 k)", "x k", "a,a", "", false}, {"x", "", "", "a", false}, {"(cut (mu k (cut x k)) k)", "x", "a", "", false},
		{"(cut x k)", "x k x", "a,a,a", "", false}, {"(cut x k)", "x x k", "a,a,a", "", false}, {"(cut x k)", "x k k", "a,a,a", "", false}, {"(cut x k)", "x k y y", "a,a,b,b", "", false}, {"(cut x k)", "x k l y l", "a,a,b,b,c", "", false}, {"x", "x x", "a,a", "a", false},
		// A name that is just bound is one beyond, and its type does not matter.
		{"(mu k (cut x k))", "x", "a", "a", true}, {"(mu k (cut x k))", "x k", "a,b", "a", true}, {"(mu k (cut x k))", "x k", "a,b", "b", false}, {"(cut (mu k (cut (inl x) k)) k)", "x k", "a,(+ a b)", "", true}, {"(cut (mu k (cut (inl x) k)) k)", "x k", "a,(+ b a)", "", false}, {"(cut (mu k (cut (not l) k)) (neg (mu l (cut x l))))", "x l", "a,a", "", true}, {"(cut (mu k (cut (not l) k)) (neg (mu l (cut x l))))", "x l", "a,b", "", false},
		// Lists of different lengths.
		{"(cut x k)", "x k", "a", "", false}, {"(cut x k)", "x k", "a,a,a", "", false}, {"(cut x k)", "x k y", "a,a", "", false}, {"(cut x k)", "x k", "", "", false}, {"(cut x k)", "", "a,a", "", false}, {"x", "x", "a,a", "a", false}, {"x", "x y", "a", "a", false}, {closed, "", "a", "(+ a (- a))", false}, {closed, "x", "", "(+ a (- a))", false},
		// The type of the whole.
		{"(cut x k)", "x k", "a,a", "a", false}, {"(cut x k)", "x k", "a,a", "(* a a)", false}, {"x", "x", "a", "a", true}, {"x", "x", "a", "b", false}, {"x", "x", "a", "", false}, {"k", "k", "a", "a", true}, {"k", "k", "a", "", false}, {"k", "k", "a", "(- a)", false}, {"(pair x x)", "x", "a", "(* a a)", true}, {"(pair x x)", "x", "a", "(* a b)", false}, {"(pair x x)", "x", "a", "", false},
		{"(inl x)", "x", "a", "(+ a (- (* b a)))", true}, {"(inl x)", "x", "a", "(+ b a)", false}, {"(inl x)", "x", "a", "(* a b)", false}, {"(inl x)", "x", "a", "a", false}, {"(inr x)", "x", "a", "(+ b a)", true}, {"(fst k)", "k", "a", "(* a b)", true}, {"(snd k)", "k", "a", "(* b a)", true}, {"(snd k)", "k", "a", "(* a b)", false}, {"(not k)", "k", "a", "(- a)", true}, {"(neg x)", "x", "(- a)", "(- (- a))", true}, {"(neg x)", "x", "a", "a", false},
		{"(mu k (cut x l))", "x l", "a,a", "(* b (- c))", true}, {"(mu k (cut x l))", "x l", "a,b", "(* b (- c))", false}, {"(tmu x (cut y k))", "y k", "a,a", "b", true}, {"(tmu x (cut y k))", "y k", "a,a", "", false},
		// No names.
		{closed, "", "", "(+ a (- a))", true}, {closed, "", "", "(+ (* b c) (- (* b c)))", true}, {closed, "", "", "(+ a (- b))", false}, {closed, "", "", "(+ (- a) a)", false}, {closed, "", "", "", false}, {closed, "x k", "a,b", "(+ c (- c))", true},
		// Letters are not put for each other.
		{"(cut (pair x y) (fst k))", "x y k", "a,a,a", "", true}, {"(cut (pair x y) (fst k))", "x y k", "a,b,b", "", false}, {"(cut (not k) (neg x))", "k x", "a,a1", "", false}, {"(cut x (case k l))", "x k l", "(+ (- a) b),(- a),b", "", true}, {"(cut x (case k l))", "x k l", "(+ (- a) b),(- b),a", "", false}, {"(cut x (case k l))", "x k l", "a,b,c", "", false},
		{"(cut x (neg x))", "x", "a", "", false}, {"(cut (mu l (cut (not l) l)) k)", "k", "a", "", false}, {"(cut (pair x y) (neg z))", "x y z", "a,b,c", "", false},
	} {
		var names, types []string
		if c.names != "" {
			names = strings.Split(c.names, " ")
		}
		if c.types != "" {
			types = strings.Split(c.types, ",")
		}
		if got := impl.TypeHas(c.s, names, types, c.whole); got != c.want {
			t.Errorf("TypeHas of %q with %q, %q and %q: %v", c.s, names, types, c.whole, got)
		}
	}
	if !impl.TypeHas(closed, []string{}, []string{}, "(+ a (- a))") || !impl.TypeHas(closed, nil, []string{}, "(+ a (- a))") {
		t.Errorf("TypeHas of empty lists does not hold")
	}
}

func TestTypeHasLimits(t *testing.T) {
	sixty, sixtyOne := chain("*", append(numbered(29), "(- a)")), nots(60, "a")
	for _, c := range []struct {
		of   string
		want bool
	}{{sixty, true}, {nots(59, "a"), true}, {sixtyOne, false}, {chain("+", numbered(31)), false}} {
		if impl.TypeHas("(cut x k)", []string{"x", "k"}, []string{c.of, c.of}, "") != c.want || impl.TypeHas("x", []string{"x"}, []string{c.of}, c.of) != c.want {
			t.Errorf("TypeHas with %q is not %v", c.of, c.want)
		}
		if impl.TypeHas("(cut x k)", []string{"x", "k", "y"}, []string{"a", "a", c.of}, "") != c.want || impl.TypeHas("(mu k (cut x l))", []string{"x", "l"}, []string{"a", "a"}, c.of) != c.want {
			t.Errorf("TypeHas with %q for a name beyond, or an unused one, is not %v", c.of, c.want)
		}
	}
	// The part (inl x) has 62 atoms, but is no type of the typing.
	if !impl.TypeHas("(cut (inl x) (case k l))", []string{"x", "k", "l"}, []string{sixty, sixty, "a"}, "") || impl.TypeHas("(cut (inl x) (case k l))", []string{"x", "k", "l"}, []string{sixty, nots(59, "a"), "a"}, "") {
		t.Errorf("TypeHas is wrong for a part of 62 atoms")
	}
	great := doubled(11, "(cut y k)")
	if !impl.TypeHas(great, []string{"x", "y", "k"}, []string{sixty, sixty, sixty}, "") || impl.TypeHas(great, []string{"x", "y", "k"}, []string{sixty, "a", sixty}, "") {
		t.Errorf("TypeHas of %q is wrong", great)
	}
	// All names there are, with those of a program among them.
	var names []string
	for _, first := range "xyzklm" {
		for _, digits := range append([]string{""}, numberTexts(3)...) {
			names = append(names, string(first)+digits)
		}
	}
	types := slices.Repeat([]string{"(* a b)"}, len(names))
	if !impl.TypeHas("(cut x999 m)", names, types, "") || impl.TypeHas("(cut x999 m)", append(names, "y500"), append(types, "a"), "") {
		t.Errorf("TypeHas is wrong for %d names", len(names))
	}
}

// numberTexts returns all digits of up to so many bytes.
func numberTexts(bytes int) []string {
	if bytes == 0 {
		return nil
	}
	all := strings.Split("0123456789", "")
	for _, s := range numberTexts(bytes - 1) {
		for digit := range 10 {
			all = append(all, s+strconv.Itoa(digit))
		}
	}
	return all
}

func TestTypeHasMany(t *testing.T) {
	m := &maker{state: 33}
	holds, fails := 0, 0
	ask := func(s string, names []string, types []string, whole string) {
		want := hasText(s, names, types, whole)
		if got := impl.TypeHas(s, names, types, whole); got != want {
			t.Errorf("TypeHas of %q with %q, %q and %q: %v", s, names, types, whole, got)
		}
		if want {
			holds++
		} else {
			fails++
		}
	}
	for _, p := range m.typedPrograms(400, 4) {
		if !impl.TypeHas(p.text, p.names, p.types, p.whole) {
			t.Errorf("TypeHas of %q with %q, %q and %q does not hold", p.text, p.names, p.types, p.whole)
		}
		for range 10 {
			types := slices.Clone(p.types)
			types[m.below(len(types))] = fewTypes[m.below(len(fewTypes))]
			ask(p.text, p.names, types, p.whole)
		}
		y := p.ownTyping()
		for _, of := range append(slices.Clone(fewTypes), "") {
			ask(p.text, y.Names, y.Types, of)
		}
		for i := range y.Names {
			left, types := slices.Delete(slices.Clone(y.Names), i, i+1), slices.Delete(slices.Clone(y.Types), i, i+1)
			if impl.TypeHas(p.text, left, types, p.whole) {
				t.Errorf("TypeHas of %q without %q", p.text, y.Names[i])
			}
		}
	}
	if holds < 1000 || fails < 1000 {
		t.Errorf("TypeHas holds just %d times, and fails %d times", holds, fails)
	}
}

func TestWrongProgramsHaveNoTyping(t *testing.T) {
	for _, s := range wrongPrograms() {
		if y, ok := impl.TypeOf(s); ok || !emptyTyping(y) {
			t.Errorf("TypeOf of %q: %q, %v", s, y, ok)
		}
		if left, right, ok := impl.TypeSequent(s); ok || len(left) != 0 || len(right) != 0 {
			t.Errorf("TypeSequent of %q: %q, %q, %v", s, left, right, ok)
		}
		if impl.TypeIs(s) {
			t.Errorf("TypeIs of %q", s)
		}
		for _, whole := range []string{"", "a", "(* a a)"} {
			if impl.TypeHas(s, nil, nil, whole) || impl.TypeHas(s, []string{"x", "k"}, []string{"a", "a"}, whole) {
				t.Errorf("TypeHas of %q with %q", s, whole)
			}
		}
	}
}

func TestWrongNamesAreInNoTyping(t *testing.T) {
	for _, n := range wrongNames() {
		for i := range 3 {
			names, types := slices.Insert([]string{"x", "k"}, i, n), []string{"a", "a", "a"}
			if impl.TypeHas("(cut x k)", names, types, "") {
				t.Errorf("TypeHas with %q", names)
			}
			checkWrongTyping(t, impl.Typing{Names: names, Types: types})
		}
		checkWrongTyping(t, impl.Typing{Names: []string{n}, Types: []string{"a"}, Type: "a"})
		if impl.TypeHas(n, []string{n}, []string{"a"}, "a") {
			t.Errorf("TypeHas of %q with itself", n)
		}
	}
}

// checkWrongTyping asks for what cannot be of a typing with a wrong text.
func checkWrongTyping(t *testing.T, y impl.Typing) {
	t.Helper()
	if dual, ok := impl.TypeDual(y); ok || !emptyTyping(dual) {
		t.Errorf("TypeDual of %q: %q, %v", y, dual, ok)
	}
	right := impl.Typing{Names: y.Names, Types: slices.Repeat([]string{"a"}, len(y.Names))}
	whole := impl.Typing{Names: right.Names, Types: right.Types, Type: "a"}
	for _, other := range []impl.Typing{y, right, whole} {
		if impl.TypeInstance(y, other) || impl.TypeInstance(other, y) {
			t.Errorf("TypeInstance of %q and %q", y, other)
		}
	}
}

func TestWrongFormulasAreInNoTyping(t *testing.T) {
	for _, f := range wrongFormulas() {
		for i := range 3 {
			names, types := []string{"x", "k", "y"}, []string{"a", "a", "a"}
			types[i] = f
			if impl.TypeHas("(cut x k)", names, types, "") {
				t.Errorf("TypeHas with %q", types)
			}
			checkWrongTyping(t, impl.Typing{Names: names, Types: types})
		}
		if impl.TypeHas("x", []string{"x"}, []string{f}, f) || impl.TypeHas("x", []string{"x"}, []string{"a"}, f) || impl.TypeHas("(mu k (cut x l))", []string{"x", "l"}, []string{"a", "a"}, f) || f != "" && impl.TypeHas("(cut x k)", []string{"x", "k"}, []string{"a", "a"}, f) {
			t.Errorf("TypeHas with the whole %q", f)
		}
		if f != "" {
			checkWrongTyping(t, impl.Typing{Names: []string{"x"}, Types: []string{"a"}, Type: f})
			checkWrongTyping(t, impl.Typing{Type: f})
		}
	}
}

func TestListsOfDifferentLengthsAreNoTyping(t *testing.T) {
	for _, y := range []impl.Typing{
		{Names: []string{"x"}}, {Types: []string{"a"}}, {Names: []string{"x"}, Types: []string{"a", "a"}}, {Names: []string{"x", "k"}, Types: []string{"a"}}, {Names: []string{"x"}, Type: "a"}, {Types: []string{"a"}, Type: "a"}, {Names: []string{"x", "k"}, Types: []string{"a"}, Type: "a"},
	} {
		checkWrongTyping(t, y)
		shorter := impl.Typing{Names: y.Names[:min(len(y.Names), len(y.Types))], Types: y.Types[:min(len(y.Names), len(y.Types))], Type: y.Type}
		if impl.TypeInstance(y, shorter) || impl.TypeInstance(shorter, y) || !impl.TypeInstance(shorter, shorter) {
			t.Errorf("TypeInstance of %q and %q", y, shorter)
		}
	}
}

func TestTypeDual(t *testing.T) {
	for _, c := range []struct{ y, want impl.Typing }{
		{typing(""), typing("")},
		{typing("a"), typing("a")},
		{typing("(* a b)"), typing("(+ a b)")},
		{typing("x", "a", ""), typing("k", "a", "")},
		{typing("m99", "(- (* a (+ b c)))", "(+ a (- a))"), typing("z99", "(- (+ a (* b c)))", "(* a (- a))")},
		{typing("x", "a", "y1", "b", "z", "c", "k", "d", "l2", "e", "m", "(+ a b)", ""), typing("k", "a", "l1", "b", "m", "c", "x", "d", "y2", "e", "z", "(* a b)", "")},
		// The order stays, also where no typing has it, and a name may stand twice.
		{typing("k", "b", "x", "a", "c"), typing("x", "b", "k", "a", "c")},
		{typing("x", "a", "x", "(* a b)", ""), typing("k", "a", "k", "(+ a b)", "")},
		{typing("x", "a", "k", "a", "x", "b", "a"), typing("k", "a", "x", "a", "k", "b", "a")},
		{typing("x000", nots(59, "a"), chain("*", append(numbered(29), "(- a)"))), typing("k000", nots(59, "a"), chain("+", append(numbered(29), "(- a)")))},
	} {
		if got, ok := impl.TypeDual(c.y); !ok || !sameTyping(got, c.want) {
			t.Errorf("TypeDual of %q: %q, %v", c.y, got, ok)
		}
		if got, ok := impl.TypeDual(c.want); !ok || !sameTyping(got, c.y) {
			t.Errorf("TypeDual of %q: %q, %v", c.want, got, ok)
		}
	}
}

func TestTypeInstance(t *testing.T) {
	for _, c := range []struct {
		general, y impl.Typing
		want       bool
	}{
		{typing(""), typing(""), true}, {typing("a"), typing("a"), true}, {typing("a"), typing("b"), true}, {typing("a"), typing("(* a b)"), true}, {typing("(* a b)"), typing("a"), false}, {typing(""), typing("a"), false}, {typing("a"), typing(""), false},
		{typing("(* a b)"), typing("(* c c)"), true}, {typing("(* a a)"), typing("(* c b)"), false}, {typing("(* a b)"), typing("(* b a)"), true}, {typing("(* a b)"), typing("(+ a b)"), false}, {typing("(+ a b)"), typing("(+ (- a) (+ a b))"), true}, {typing("(+ a b)"), typing("(* a b)"), false}, {typing("(- a)"), typing("(- (- a))"), true}, {typing("(- (- a))"), typing("(- a)"), false}, {typing("(- a)"), typing("(+ a b)"), false}, {typing("(- a)"), typing("a"), false}, {typing("(* a1 a01)"), typing("(* b c)"), true}, {typing("(* a a)"), typing("(* a1 a01)"), false},
		// One formula for each letter, in all types.
		{typing("x", "a", "a"), typing("x", "(- b)", "(- b)"), true}, {typing("x", "a", "a"), typing("x", "(- b)", "b"), false}, {typing("x", "a", "b"), typing("x", "(- b)", "b"), true}, {typing("x", "a", "k", "a", ""), typing("x", "(* b b)", "k", "(* b b)", ""), true}, {typing("x", "a", "k", "a", ""), typing("x", "(* b b)", "k", "(* b c)", ""), false}, {typing("x", "a", "y", "b", "k", "(* a b)", ""), typing("x", "b", "y", "a", "k", "(* b a)", ""), true}, {typing("x", "a", "y", "b", "k", "(* a b)", ""), typing("x", "b", "y", "a", "k", "(* a b)", ""), false}, {typing("x", "(+ a b)", "k", "(- a)", "b"), typing("x", "(+ (- c) (* c c))", "k", "(- (- c))", "(* c c)"), true}, {typing("x", "(+ a b)", "k", "(- a)", "b"), typing("x", "(+ (- c) (* c c))", "k", "(- (- c))", "(* c a)"), false},
		// What is put has letters that are put for, too: at once, not one behind another.
		{typing("x", "a", "y", "b", ""), typing("x", "b", "y", "(- a)", ""), true}, {typing("x", "a", "y", "b", "(* a b)"), typing("x", "b", "y", "a", "(* b a)"), true}, {typing("x", "a", "y", "b", "(* a b)"), typing("x", "b", "y", "a", "(* a b)"), false}, {typing("x", "a", "(- a)"), typing("x", "(- a)", "(- (- a))"), true},
		// The same names in the same order, each one once.
		{typing("x", "a", ""), typing("y", "a", ""), false}, {typing("x", "a", ""), typing("k", "a", ""), false}, {typing("x", "a", ""), typing("x0", "a", ""), false}, {typing("x0", "a", ""), typing("x00", "a", ""), false}, {typing("x", "a", "k", "b", ""), typing("k", "b", "x", "a", ""), false}, {typing("x", "a", "k", "b", ""), typing("x", "a", ""), false}, {typing("x", "a", ""), typing("x", "a", "k", "b", ""), false}, {typing(""), typing("x", "a", ""), false}, {typing("x", "a", ""), typing(""), false},
		{typing("x", "a", "x", "a", ""), typing("x", "a", "x", "a", ""), false}, {typing("x", "a", "k", "a", "x", "a", "a"), typing("x", "a", "k", "a", "x", "a", "a"), false}, {typing("x", "a", "x", "b", ""), typing("x", "a", "k", "b", ""), false}, {typing("x", "a", "k", "b", ""), typing("x", "a", "x", "b", ""), false},
		// One type of the whole just with another.
		{typing("x", "a", "b"), typing("x", "a", ""), false}, {typing("x", "a", ""), typing("x", "a", "a"), false},
		{typing("x", "a", nots(58, "a")), typing("x", "(- b)", nots(59, "b")), true}, {typing("x", "a", nots(59, "a")), typing("x", "a", nots(58, "a")), false}, {typing("x", "a", ""), typing("x", chain("*", append(numbered(29), "(- a)")), ""), true}, {typing("x", "a", ""), typing("x", nots(60, "a"), ""), false}, {typing("x", nots(60, "a"), ""), typing("x", nots(60, "a"), ""), false},
	} {
		if got := impl.TypeInstance(c.general, c.y); got != c.want {
			t.Errorf("TypeInstance of %q and %q: %v", c.general, c.y, got)
		}
	}
}

func TestTypeInstanceMany(t *testing.T) {
	m := &maker{state: 34}
	holds, fails := 0, 0
	for range 3000 {
		general, y := m.typing(7), m.typing(7)
		for _, other := range []impl.Typing{y, replaceLetters(general, func(s string) string { return m.formula(1+len(s), fewNames) }), m.replaced(general)} {
			want := instanceText(general, other)
			if got := impl.TypeInstance(general, other); got != want {
				t.Errorf("TypeInstance of %q and %q: %v", general, other, got)
			}
			if want {
				holds++
			} else {
				fails++
			}
		}
	}
	if holds < 1000 || fails < 1000 {
		t.Errorf("TypeInstance holds just %d times, and fails %d times", holds, fails)
	}
}

// typing makes a typing of two names and mostly a whole.
func (m *maker) typing(atoms int) impl.Typing {
	y := typing("x", m.formula(1+m.below(atoms), fewNames), "k", m.formula(1+m.below(atoms), fewNames), "")
	if m.below(5) > 0 {
		y.Type = m.formula(1+m.below(atoms), fewNames)
	}
	return y
}

// replaced puts one formula for each letter.
func (m *maker) replaced(y impl.Typing) impl.Typing {
	by := map[string]string{}
	return replaceLetters(y, func(s string) string {
		if by[s] == "" {
			by[s] = m.formula(1+m.below(4), fewNames)
		}
		return by[s]
	})
}

func TestTypeSequent(t *testing.T) {
	for _, c := range []struct{ s, left, right string }{
		{"x", "a", "a"}, {"k", "a", "a"}, {"(cut x k)", "a", "a"}, {"(not k)", "", "a,(- a)"}, {"(neg x)", "a,(- a)", ""},
		{"(pair y x)", "a,b", "(* a b)"}, {"(case l k)", "(+ a b)", "a,b"}, {"(inr x)", "a", "(+ b a)"}, {"(fst k)", "(* a b)", "a"},
		{"(cut (pair x y) (fst k))", "a,b", "a"}, {"(cut (not k) (neg x))", "a", "a"}, {"(cut (mu m (cut x k)) (case l (fst (tmu z (cut y l)))))", "a,b", "a,b"}, {"(cut (not l) (neg (mu k (cut x (snd m)))))", "(* b c)", "a,c"},
		// The type of the whole is behind those of its side.
		{"(mu k (cut x l))", "a", "a,b"}, {"(tmu x (cut y k))", "a,b", "a"}, {"(mu m (cut (pair x z) (fst (tmu y (cut (not l) k)))))", "a,b", "c,(- c),d"}, {"(tmu x (cut (pair y x) k))", "a,b", "(* a b)"},
		{"(mu k (cut (inr (not (tmu x (cut (inl x) k)))) k))", "", "(+ a (- a))"}, {"(tmu x (cut x (fst (tmu y (cut x (snd (neg y)))))))", "(* a (- a))", ""},
	} {
		left, right, ok := impl.TypeSequent(c.s)
		if !ok || strings.Join(left, ",") != c.left || strings.Join(right, ",") != c.right {
			t.Errorf("TypeSequent of %q: %q, %q, %v", c.s, left, right, ok)
		}
	}
	for _, s := range slices.Concat(somePrograms(), typable()) {
		y, okWant := typingText(s)
		sides := map[string][]string{}
		for i, n := range y.Names {
			sides[programKind(n)] = append(sides[programKind(n)], y.Types[i])
		}
		wantLeft, wantRight := sides["term"], sides["coterm"]
		switch programKind(s) {
		case "term":
			wantRight = append(wantRight, y.Type)
		case "coterm":
			wantLeft = append(wantLeft, y.Type)
		}
		if !okWant {
			wantLeft, wantRight = nil, nil
		}
		if left, right, ok := impl.TypeSequent(s); ok != okWant || !slices.Equal(left, wantLeft) || !slices.Equal(right, wantRight) {
			t.Errorf("TypeSequent of %q: %q, %q, %v", s, left, right, ok)
		}
	}
}

// overwrite changes all that a slice can reach.
func overwrite(list []string) {
	list = list[:cap(list)]
	for i := range list {
		list[i] = "changed"
	}
}

func TestTypingsAreNewMemory(t *testing.T) {
	s := "(pair (mu m (cut x k)) (mu m (cut (inl y) l)))"
	want := typing("x", "a", "k", "a", "y", "b", "l", "(+ b c)", "(* d e)")
	for range 2 {
		y, ok := impl.TypeOf(s)
		if !ok || !sameTyping(y, want) {
			t.Fatalf("TypeOf of %q: %q, %v", s, y, ok)
		}
		dual, _ := impl.TypeDual(y)
		overwrite(dual.Types)
		if !slices.Equal(dual.Names, []string{"k", "x", "l", "y"}) || !sameTyping(y, want) {
			t.Errorf("%q or %q changed with the dual's types", dual, y)
		}
		dual, _ = impl.TypeDual(y)
		overwrite(dual.Names)
		if !slices.Equal(dual.Types, []string{"a", "a", "b", "(* b c)"}) || !sameTyping(y, want) {
			t.Errorf("%q or %q changed with the dual's names", dual, y)
		}
		overwrite(y.Names)
		if !slices.Equal(y.Types, want.Types) {
			t.Errorf("%q changed with the names", y.Types)
		}
		overwrite(y.Types)
		left, right, ok := impl.TypeSequent(s)
		overwrite(left)
		if !ok || !slices.Equal(right, []string{"a", "(+ b c)", "(* d e)"}) {
			t.Errorf("TypeSequent of %q: %q on the right, %v", s, right, ok)
		}
		overwrite(right)
	}
}

func TestTypingsStayAsTheyAre(t *testing.T) {
	names, types := []string{"x", "k", "y", "spare"}, []string{"(* a b)", "(* a b)", "c", "spare"}
	y := impl.Typing{Names: names[:3], Types: types[:3], Type: "(+ a b)"}
	for range 2 {
		impl.TypeHas("(cut x k)", y.Names, y.Types, "")
		impl.TypeHas("(mu l (cut x k))", y.Names, y.Types, y.Type)
		impl.TypeDual(y)
		impl.TypeInstance(y, y)
		impl.TypeInstance(y, typing("x", "a", ""))
	}
	if !slices.Equal(names, []string{"x", "k", "y", "spare"}) || !slices.Equal(types, []string{"(* a b)", "(* a b)", "c", "spare"}) || len(y.Names) != 3 || len(y.Types) != 3 || y.Type != "(+ a b)" {
		t.Errorf("the typing became %q, with %q and %q", y, names, types)
	}
}
