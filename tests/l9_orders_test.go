package tests

import (
	"slices"

	"testing"

	"loop.example/classicalcontrol/impl"
)

// choices are pairs of statements, each with its choice.
var choices = [][3]string{
	{"(cut x k)", "(cut y l)", "(cut (mu k0 (cut x k)) (tmu x0 (cut y l)))"},
	{"(cut x k)", "(cut x k)", "(cut (mu k0 (cut x k)) (tmu x0 (cut x k)))"},
	{"(cut (pair x y) (fst k))", "(cut (not l) (neg z))", "(cut (mu k0 (cut (pair x y) (fst k))) (tmu x0 (cut (not l) (neg z))))"},
	// New names are free in neither statement, though one of them would do in the other.
	{"(cut x k0)", "(cut y l)", "(cut (mu k1 (cut x k0)) (tmu x0 (cut y l)))"},
	{"(cut x k)", "(cut y k0)", "(cut (mu k1 (cut x k)) (tmu x0 (cut y k0)))"},
	{"(cut x0 k)", "(cut y l)", "(cut (mu k0 (cut x0 k)) (tmu x1 (cut y l)))"},
	{"(cut x k)", "(cut x0 l)", "(cut (mu k0 (cut x k)) (tmu x1 (cut x0 l)))"},
	{"(cut x0 k0)", "(cut x1 k1)", "(cut (mu k2 (cut x0 k0)) (tmu x2 (cut x1 k1)))"},
	{"(cut x1 k1)", "(cut x0 k0)", "(cut (mu k2 (cut x1 k1)) (tmu x2 (cut x0 k0)))"},
	{"(cut x0 k0)", "(cut x0 k0)", "(cut (mu k1 (cut x0 k0)) (tmu x1 (cut x0 k0)))"},
	{"(cut x1 k1)", "(cut x2 k2)", "(cut (mu k0 (cut x1 k1)) (tmu x0 (cut x2 k2)))"},
	{"(cut x0 k1)", "(cut x2 k0)", "(cut (mu k2 (cut x0 k1)) (tmu x1 (cut x2 k0)))"},
	{"(cut x00 k00)", "(cut x0 k0)", "(cut (mu k1 (cut x00 k00)) (tmu x1 (cut x0 k0)))"},
	{"(cut y0 l0)", "(cut z0 m0)", "(cut (mu k0 (cut y0 l0)) (tmu x0 (cut z0 m0)))"},
	{"(cut (pair x0 (pair x1 x2)) k)", "(cut y (case k0 (case k1 k3)))", "(cut (mu k2 (cut (pair x0 (pair x1 x2)) k)) (tmu x3 (cut y (case k0 (case k1 k3)))))"},
	// What is bound in the statements comes behind the new covariable, and that of the first one ahead of the new variable.
	{"(cut (mu k0 (cut x k0)) k)", "(cut y (tmu x0 (cut x0 l)))", "(cut (mu k0 (cut (mu k1 (cut x k1)) k)) (tmu x0 (cut y (tmu x1 (cut x1 l)))))"},
	{"(cut x (tmu y (cut y k)))", "(cut (mu l (cut z l)) m)", "(cut (mu k0 (cut x (tmu x0 (cut x0 k)))) (tmu x1 (cut (mu k1 (cut z k1)) m)))"},
	{"(cut (mu k (cut x k)) k)", "(cut x (tmu x (cut x k)))", "(cut (mu k0 (cut (mu k1 (cut x k1)) k)) (tmu x0 (cut x (tmu x1 (cut x1 k)))))"},
	// Free in one statement, and bound in the other.
	{"(cut (mu k0 (cut x k0)) k)", "(cut y k0)", "(cut (mu k1 (cut (mu k2 (cut x k2)) k)) (tmu x0 (cut y k0)))"},
	{"(cut x0 k0)", "(cut (mu k0 (cut y k0)) (tmu x0 (cut x0 l)))", "(cut (mu k1 (cut x0 k0)) (tmu x1 (cut (mu k2 (cut y k2)) (tmu x2 (cut x2 l)))))"},
	{"(cut x (tmu x0 (cut x0 k)))", "(cut x0 l)", "(cut (mu k0 (cut x (tmu x1 (cut x1 k)))) (tmu x2 (cut x0 l)))"},
	// Bound names that are not used.
	{"(cut (mu k (cut x l)) m)", "(cut (mu k (cut y l)) (tmu z (cut x m)))", "(cut (mu k0 (cut (mu k1 (cut x l)) m)) (tmu x0 (cut (mu k2 (cut y l)) (tmu x1 (cut x m)))))"},
	// A choice of choices.
	{"(cut (mu k0 (cut x k)) (tmu x0 (cut y l)))", "(cut (mu k0 (cut z k)) (tmu x0 (cut x l)))", "(cut (mu k0 (cut (mu k1 (cut x k)) (tmu x0 (cut y l)))) (tmu x1 (cut (mu k2 (cut z k)) (tmu x2 (cut x l)))))"},
}

// checkChoice holds the choice of two texts against what is wanted, "" if there is none.
func checkChoice(t *testing.T, a string, b string, want string) {
	t.Helper()
	if got, ok := impl.Choice(a, b); ok != (want != "") || got != want {
		t.Errorf("Choice of %q and %q: %q, %v, not %q", a, b, got, ok, want)
	}
}

func TestChoice(t *testing.T) {
	for _, c := range choices {
		checkChoice(t, c[0], c[1], c[2])
		if got := choiceText(c[0], c[1]); got != c[2] {
			t.Errorf("the helper tells of %q and %q %q", c[0], c[1], got)
		}
	}
}

func TestChoiceOfMany(t *testing.T) {
	m := &maker{state: 91}
	some, done := append(statementsOnly(somePrograms()), m.unused(100, 3)...), 0
	for _, a := range some {
		for range 4 {
			b := some[m.below(len(some))]
			want := choiceText(a, b)
			checkChoice(t, a, b, want)
			if want != "" {
				done++
			}
		}
		checkChoice(t, a, a, choiceText(a, a))
	}
	if done < 500 {
		t.Errorf("just %d choices", done)
	}
}

// A longerCase is a term or a coterm with its longer form.
type longerCase struct{ s, long string }

var longerCases = map[string][]longerCase{
	"long": {
		{"x", "(mu k0 (cut x k0))"}, {"k", "(tmu x0 (cut x0 k))"}, {"x0", "(mu k0 (cut x0 k0))"}, {"k0", "(tmu x0 (cut x0 k0))"}, {"z999", "(mu k0 (cut z999 k0))"}, {"m00", "(tmu x0 (cut x0 m00))"},
		{"(pair x y)", "(mu k0 (cut (pair x y) k0))"}, {"(fst (snd k))", "(tmu x0 (cut x0 (fst (snd k))))"}, {"(inl (inr x))", "(mu k0 (cut (inl (inr x)) k0))"}, {"(case k l)", "(tmu x0 (cut x0 (case k l)))"},
		// The new name is not free there.
		{"(not k0)", "(mu k1 (cut (not k0) k1))"}, {"(neg x0)", "(tmu x1 (cut x1 (neg x0)))"}, {"(not k1)", "(mu k0 (cut (not k1) k0))"}, {"(neg x1)", "(tmu x0 (cut x0 (neg x1)))"},
		{"(not (case k0 k1))", "(mu k2 (cut (not (case k0 k1)) k2))"}, {"(neg (pair x0 x1))", "(tmu x2 (cut x2 (neg (pair x0 x1))))"}, {"(not (case k0 k2))", "(mu k1 (cut (not (case k0 k2)) k1))"}, {"(neg (pair x2 x0))", "(tmu x1 (cut x1 (neg (pair x2 x0))))"},
		{"(not k00)", "(mu k0 (cut (not k00) k0))"}, {"(neg x00)", "(tmu x0 (cut x0 (neg x00)))"}, {"(not l0)", "(mu k0 (cut (not l0) k0))"}, {"(neg y0)", "(tmu x0 (cut x0 (neg y0)))"},
		// What is bound there is bound within.
		{"(mu k0 (cut x k0))", "(mu k0 (cut (mu k1 (cut x k1)) k0))"}, {"(tmu x0 (cut x0 k))", "(tmu x0 (cut x0 (tmu x1 (cut x1 k))))"}, {"(mu k (cut x k))", "(mu k0 (cut (mu k1 (cut x k1)) k0))"}, {"(tmu x (cut x k))", "(tmu x0 (cut x0 (tmu x1 (cut x1 k))))"},
		{"(tmu y (cut (mu l (cut y l)) k))", "(tmu x0 (cut x0 (tmu x1 (cut (mu k0 (cut x1 k0)) k))))"}, {"(mu l (cut x (tmu y (cut y l))))", "(mu k0 (cut (mu k1 (cut x (tmu x0 (cut x0 k1)))) k0))"},
		{"(mu k (cut (mu k (cut x k)) k))", "(mu k0 (cut (mu k1 (cut (mu k2 (cut x k2)) k1)) k0))"}, {"(not (tmu x0 (cut x0 k0)))", "(mu k1 (cut (not (tmu x0 (cut x0 k0))) k1))"},
		{"(mu k0 (cut (not k0) k1))", "(mu k0 (cut (mu k2 (cut (not k2) k1)) k0))"}, {"(tmu x1 (cut x0 (neg x1)))", "(tmu x1 (cut x1 (tmu x2 (cut x0 (neg x2)))))"},
		// Names that are bound and not used.
		{"(mu m (cut x0 k0))", "(mu k1 (cut (mu k2 (cut x0 k0)) k1))"}, {"(tmu z (cut x0 k0))", "(tmu x1 (cut x1 (tmu x2 (cut x0 k0))))"},
	},
	"pair": {
		{"x", "(pair (mu k0 (cut x (fst k0))) (mu k1 (cut x (snd k1))))"}, {"k", "(case (tmu x0 (cut (inl x0) k)) (tmu x1 (cut (inr x1) k)))"},
		{"x0", "(pair (mu k0 (cut x0 (fst k0))) (mu k1 (cut x0 (snd k1))))"}, {"k0", "(case (tmu x0 (cut (inl x0) k0)) (tmu x1 (cut (inr x1) k0)))"},
		{"(pair x y)", "(pair (mu k0 (cut (pair x y) (fst k0))) (mu k1 (cut (pair x y) (snd k1))))"}, {"(case k l)", "(case (tmu x0 (cut (inl x0) (case k l))) (tmu x1 (cut (inr x1) (case k l))))"},
		// The new names are not free there.
		{"(not k0)", "(pair (mu k1 (cut (not k0) (fst k1))) (mu k2 (cut (not k0) (snd k2))))"}, {"(neg x0)", "(case (tmu x1 (cut (inl x1) (neg x0))) (tmu x2 (cut (inr x2) (neg x0))))"},
		{"(not k1)", "(pair (mu k0 (cut (not k1) (fst k0))) (mu k2 (cut (not k1) (snd k2))))"}, {"(neg x1)", "(case (tmu x0 (cut (inl x0) (neg x1))) (tmu x2 (cut (inr x2) (neg x1))))"},
		{"(not (case k2 k0))", "(pair (mu k1 (cut (not (case k2 k0)) (fst k1))) (mu k3 (cut (not (case k2 k0)) (snd k3))))"}, {"(neg (pair x1 x2))", "(case (tmu x0 (cut (inl x0) (neg (pair x1 x2)))) (tmu x3 (cut (inr x3) (neg (pair x1 x2)))))"},
		// What is bound there is bound in both parts, each time as another name.
		{"(mu k (cut x k))", "(pair (mu k0 (cut (mu k1 (cut x k1)) (fst k0))) (mu k2 (cut (mu k3 (cut x k3)) (snd k2))))"},
		{"(tmu x0 (cut x0 k))", "(case (tmu x0 (cut (inl x0) (tmu x1 (cut x1 k)))) (tmu x2 (cut (inr x2) (tmu x3 (cut x3 k)))))"},
		{"(not (tmu y (cut y l)))", "(pair (mu k0 (cut (not (tmu x0 (cut x0 l))) (fst k0))) (mu k1 (cut (not (tmu x1 (cut x1 l))) (snd k1))))"},
		{"(neg (mu l (cut y l)))", "(case (tmu x0 (cut (inl x0) (neg (mu k0 (cut y k0))))) (tmu x1 (cut (inr x1) (neg (mu k1 (cut y k1))))))"},
		{"(mu k0 (cut (not k0) k1))", "(pair (mu k0 (cut (mu k2 (cut (not k2) k1)) (fst k0))) (mu k3 (cut (mu k4 (cut (not k4) k1)) (snd k3))))"},
		{"(tmu x (cut (mu k (cut x k)) (fst (tmu x (cut x k)))))", "(case (tmu x0 (cut (inl x0) (tmu x1 (cut (mu k0 (cut x1 k0)) (fst (tmu x2 (cut x2 k))))))) (tmu x3 (cut (inr x3) (tmu x4 (cut (mu k1 (cut x4 k1)) (fst (tmu x5 (cut x5 k))))))))"},
		// Names that are bound and not used.
		{"(mu m (cut x0 k0))", "(pair (mu k1 (cut (mu k2 (cut x0 k0)) (fst k1))) (mu k3 (cut (mu k4 (cut x0 k0)) (snd k3))))"}, {"(tmu z (cut x0 k0))", "(case (tmu x1 (cut (inl x1) (tmu x2 (cut x0 k0)))) (tmu x3 (cut (inr x3) (tmu x4 (cut x0 k0)))))"},
	},
	"not": {
		{"x", "(not (tmu x0 (cut x (neg x0))))"}, {"y7", "(not (tmu x0 (cut y7 (neg x0))))"}, {"x0", "(not (tmu x1 (cut x0 (neg x1))))"}, {"x1", "(not (tmu x0 (cut x1 (neg x0))))"}, {"x00", "(not (tmu x0 (cut x00 (neg x0))))"},
		{"(pair x0 x1)", "(not (tmu x2 (cut (pair x0 x1) (neg x2))))"}, {"(pair x2 x0)", "(not (tmu x1 (cut (pair x2 x0) (neg x1))))"}, {"(pair x1 x2)", "(not (tmu x0 (cut (pair x1 x2) (neg x0))))"}, {"(inl y)", "(not (tmu x0 (cut (inl y) (neg x0))))"},
		{"(not k0)", "(not (tmu x0 (cut (not k0) (neg x0))))"}, {"(not (neg x0))", "(not (tmu x1 (cut (not (neg x0)) (neg x1))))"},
		{"(not (tmu x0 (cut x0 k0)))", "(not (tmu x0 (cut (not (tmu x1 (cut x1 k0))) (neg x0))))"}, {"(mu k0 (cut x k0))", "(not (tmu x0 (cut (mu k0 (cut x k0)) (neg x0))))"}, {"(mu k (cut x (tmu y (cut y k))))", "(not (tmu x0 (cut (mu k0 (cut x (tmu x1 (cut x1 k0)))) (neg x0))))"},
		{"(mu k (cut x1 (tmu x0 (cut x0 k))))", "(not (tmu x0 (cut (mu k0 (cut x1 (tmu x2 (cut x2 k0)))) (neg x0))))"}, {"(mu m (cut x0 k0))", "(not (tmu x1 (cut (mu k1 (cut x0 k0)) (neg x1))))"},
	},
}

// checkLonger holds the longer form of a text against what is wanted, "" if there is none.
func checkLonger(t *testing.T, form string, s string, want string) {
	t.Helper()
	if got, ok := longerForms[form](s); ok != (want != "") || got != want {
		t.Errorf("the %s form of %q: %q, %v, not %q", form, s, got, ok, want)
	}
}

func TestLongerForms(t *testing.T) {
	for form, cases := range longerCases {
		for _, c := range cases {
			checkLonger(t, form, c.s, c.long)
			if got := longerText(form, c.s); got != c.long {
				t.Errorf("the helper tells of the %s form of %q %q", form, c.s, got)
			}
		}
	}
}

func TestLongerFormsOfMany(t *testing.T) {
	m := &maker{state: 92}
	some := append(somePrograms(), m.programs(600, 5)...)
	counts := map[string]int{}
	for form := range longerForms {
		for _, s := range some {
			want := longerText(form, s)
			checkLonger(t, form, s, want)
			if want == "" {
				continue
			}
			counts[form+" "+programKind(s)]++
			// The longer form of what is alike is the same.
			checkLonger(t, form, canonOf(t, s), want)
		}
	}
	for _, way := range []string{"long term", "long coterm", "pair term", "pair coterm", "not term"} {
		if counts[way] < 200 {
			t.Errorf("just %v", counts)
		}
	}
	if len(counts) != 5 {
		t.Errorf("there are %v", counts)
	}
}

// A term or a coterm that is made longer again and again has all new names apart.
func TestLongerFormsOfLongerForms(t *testing.T) {
	for _, s := range []string{"x", "x0", "(not k0)", "(mu k (cut x0 k))", "k", "k0", "(neg x0)", "(tmu x (cut x k0))"} {
		for form := range longerForms {
			at, rounds := s, 0
			for at != "" {
				want := longerText(form, at)
				checkLonger(t, form, at, want)
				at = want
				rounds++
			}
			// Pair forms come to more than 500 atoms soon, the others when there are too many parentheses or atoms.
			if least := map[string]int{"long": 60, "pair": 5, "not": 50}[form]; rounds < least && (form != "not" || programKind(s) == "term") {
				t.Errorf("the %s form of %q was made just %d times", form, s, rounds)
			}
		}
	}
}

// longerLimits are at the limits of each form: the size or the depth of what is just possible.
var longerLimits = map[string]struct{ size, deep, most int }{
	"long": {496, 198, 500},
	"pair": {244, 197, 499}, // one atom more makes two, and all pair forms have an odd number of atoms
	"not":  {494, 197, 500},
}

func TestLimitsOfLongerForms(t *testing.T) {
	for form, c := range longerLimits {
		for _, name := range []string{"x999", "x0", "k", "m000"} {
			if form == "not" && name[0] < 'x' {
				continue
			}
			for _, s := range []string{sized(name, c.size), sized(name, c.size-1), deepened(name, c.deep), deepened(name, c.deep-1)} {
				want := longerText(form, s)
				if want == "" {
					t.Fatalf("there is no %s form of %q", form, s)
				}
				checkLonger(t, form, s, want)
			}
			for _, s := range []string{sized(name, c.size+1), sized(name, c.size+2), sized(name, 500), deepened(name, c.deep+1), deepened(name, c.deep+2), deepened(name, 200)} {
				if programKind(s) == "" {
					t.Fatalf("%q is no program", s)
				}
				checkLonger(t, form, s, "")
			}
			just, _ := longerForms[form](sized(name, c.size))
			deep, _ := longerForms[form](deepened(name, c.deep))
			if len(atomText.FindAllString(just, -1)) != c.most || nesting(deep) != 200 {
				t.Errorf("the greatest %s form has %d atoms, the deepest one nesting %d", form, len(atomText.FindAllString(just, -1)), nesting(deep))
			}
		}
	}
}

func TestLimitsOfChoice(t *testing.T) {
	of := func(atoms int) string { return "(cut " + sized("x999", atoms-2) + " k)" }
	deep := func(count int) string { return "(cut y " + deepened("k0", count) + ")" }
	for _, c := range []struct {
		a, b string
		ok   bool
	}{
		{of(248), of(247), true}, {of(247), of(248), true}, {of(248), of(248), false}, {of(249), of(247), false}, {of(492), of(3), true}, {of(3), of(492), true}, {of(493), of(3), false}, {of(3), of(493), false}, {of(494), of(3), false}, {of(3), of(500), false}, {of(500), of(500), false},
		{deep(197), of(3), true}, {of(3), deep(197), true}, {deep(197), deep(197), true}, {deep(198), of(3), false}, {of(3), deep(198), false}, {deep(199), deep(3), false},
	} {
		if programKind(c.a) == "" || programKind(c.b) == "" {
			t.Fatalf("%q or %q is no program", c.a, c.b)
		}
		want := choiceText(c.a, c.b)
		if (want != "") != c.ok {
			t.Fatalf("the helper tells of %q and %q %q", c.a, c.b, want)
		}
		checkChoice(t, c.a, c.b, want)
	}
}

// wrongOf are texts that are no program, and programs that are not of a kind.
func wrongOf(kind string) []string {
	wrong := wrongPrograms()
	for s, other := range smallPrograms {
		if other != kind {
			wrong = append(wrong, s)
		}
	}
	for _, s := range greatestPrograms() {
		if programKind(s) != kind {
			wrong = append(wrong, s)
		}
	}
	return append(wrong, "term", "coterm", "statement", "(cut x k) ", "x ", " k", "(pair x y) (fst k)", "x k", "(cut x k)(cut x k)")
}

func TestChoiceOfWrongTexts(t *testing.T) {
	for _, s := range wrongOf("statement") {
		checkChoice(t, s, "(cut x k)", "")
		checkChoice(t, "(cut x k)", s, "")
		checkChoice(t, s, s, "")
		checkChoice(t, s, "", "")
		if impl.OrdersDiffer(s) {
			t.Errorf("OrdersDiffer of %q", s)
		}
		if m, k, ok := impl.CutParts(s); ok || m != "" || k != "" {
			t.Errorf("CutParts of %q: %q, %q, %v", s, m, k, ok)
		}
	}
}

func TestLongerFormsOfWrongTexts(t *testing.T) {
	for form := range longerForms {
		for _, s := range wrongOf("term") {
			if form == "not" || programKind(s) != "coterm" {
				checkLonger(t, form, s, "")
			}
		}
	}
	for _, s := range []string{"(cut x k)", "(cut (mu k (cut x k)) (tmu x (cut x k)))", forever} {
		for form := range longerForms {
			checkLonger(t, form, s, "")
		}
	}
	for _, s := range []string{"k", "k0", "(case k l)", "(fst k)", "(snd k)", "(neg x)", "(neg x0)", "(tmu x (cut x k))", "(tmu x (cut x (neg x)))"} {
		checkLonger(t, "not", s, "")
	}
}

// differCases are statements, with whether their orders differ.
var differCases = map[string]bool{
	// Both names are not used, or one of them, or none.
	"(cut (mu k (cut x l)) (tmu y (cut z m)))": true, "(cut (mu k (cut x l)) (tmu y (cut x m)))": true, "(cut (mu k (cut x l)) (tmu y (cut z l)))": true, "(cut (mu k (cut x l)) (tmu y (cut x l)))": false,
	"(cut (mu k (cut x l)) (tmu y (cut y m)))": false, "(cut (mu k (cut x k)) (tmu y (cut z m)))": false, "(cut (mu k (cut x k)) (tmu y (cut y m)))": false,
	"(cut (mu k (cut x k)) l)": false, "(cut (mu k (cut x l)) m)": false, "(cut x (tmu y (cut z k)))": false, "(cut (pair x y) (fst k))": false, "(cut (inl x) (case k l))": false, "(cut (not k) (neg x))": false,
	// One kind looks at what the other kind forgets.
	"(cut (pair x (mu k (cut y l))) (fst m))": true, "(cut (pair (mu k (cut y l)) x) (fst m))": false, "(cut (pair (mu k (cut y l)) x) (snd m))": true, "(cut (pair x (mu k (cut y l))) (snd m))": false, "(cut (pair x (mu k (cut y k))) (fst m))": false,
	"(cut (inl x) (case k (tmu y (cut z l))))": true, "(cut (inl x) (case (tmu y (cut z l)) k))": false, "(cut (inr x) (case (tmu y (cut z l)) k))": true, "(cut (inr x) (case k (tmu y (cut z l))))": false,
	"(cut (not (tmu y (cut z l))) (neg (mu k (cut x m))))": true, "(cut (not (tmu y (cut y l))) (neg (mu k (cut x m))))": false, "(cut (not l) (neg (mu k (cut x m))))": false,
	// Stuck from the start for both kinds, or for one of them.
	"(cut x k)": false, "(cut x0 k999)": false, "(cut (pair x y) (neg z))": false, "(cut (not (tmu y (cut y l))) m)": false, "(cut x (neg (mu k (cut y k))))": false,
	"(cut x (fst (tmu y (cut y k))))": true, "(cut (inl (mu k (cut x k))) l)": true, "(cut (pair (mu k (cut x l)) (mu k (cut y l))) m)": true, "(cut (not k) (fst (tmu y (cut y k))))": true, "(cut x (case (tmu y (cut z l)) k))": true,
	// Ends that are alike, but for bound names where they were written.
	"(cut (mu k (cut (not (tmu y (cut y l))) m)) (tmu z (cut (not (tmu x (cut x l))) m)))": false, "(cut (mu k (cut (not (tmu x0 (cut x0 l))) m)) (tmu z (cut (not (tmu x1 (cut x1 l))) m)))": false, "(cut (mu k (cut x (neg (mu m (cut y m))))) (tmu z (cut x (neg (mu l (cut y l))))))": false,
	"(cut (mu k (cut (not (tmu y (cut y l))) m)) (tmu z (cut (not (tmu x (cut x m))) m)))": true, "(cut (mu k (cut (not (tmu y (cut x l))) m)) (tmu z (cut (not (tmu x (cut x l))) m)))": true, "(cut (not (tmu y (cut y l))) (tmu z (cut z m)))": false,
	// No end by one kind, or by both, though the other kind has one.
	forever: false, grows: false, nests: false, foreverByValue: false,
	"(cut (mu k " + forever + ") (tmu y " + forever + "))": false, "(cut (mu k (cut x l)) (tmu y " + forever + "))": false, "(cut (mu k (cut x l)) (tmu y " + grows + "))": false, "(cut (mu k " + nests + ") (tmu y (cut x l)))": false,
	"(cut (mu k (cut x l)) (tmu y (cut (mu k " + forever + ") (tmu y (cut z m)))))": true,
	// No program.
	"": false, "x": false, "(cut (mu k (cut x l)) (tmu y (cut z m))) ": false,
}

// checkDiffer holds a statement, and its dual if it is one, against what is wanted.
func checkDiffer(t *testing.T, s string, want bool) {
	t.Helper()
	if got := impl.OrdersDiffer(s); got != want {
		t.Errorf("OrdersDiffer of %q: %v", s, got)
	}
	if programKind(s) == "" {
		return
	}
	if got := impl.OrdersDiffer(dualText(s)); got != want {
		t.Errorf("OrdersDiffer of %q: %v", dualText(s), got)
	}
}

func TestOrdersDiffer(t *testing.T) {
	for s, want := range differCases {
		checkDiffer(t, s, want)
		if programKind(s) == "statement" && differText(s) != want {
			t.Errorf("the helper tells of %q %v", s, differText(s))
		}
	}
	for _, c := range choices {
		checkDiffer(t, c[2], differText(c[2]))
	}
}

func TestOrdersDifferOfMany(t *testing.T) {
	m := &maker{state: 93}
	some := slices.Concat(reducible(), m.unused(400, 3))
	counts := map[bool]int{}
	for _, s := range some {
		want := differText(s)
		checkDiffer(t, s, want)
		counts[want]++
	}
	if counts[true] < 300 || counts[false] < 300 {
		t.Errorf("just %v", counts)
	}
}

// Ends that differ, one of them behind just StepsMax steps, or behind one step more.
func TestOrdersDifferWithinStepsMax(t *testing.T) {
	s := "(cut " + unready(60) + " k)"
	need := runText("value", s, 1000).steps
	for more, want := range map[int]bool{-1: true, 0: true, 1: false, 2: false} {
		checkDiffer(t, delayed(impl.StepsMax-need+more, s), want)
		// By name the steps are those that were put ahead.
		checkDiffer(t, "(cut (mu k (cut x l)) (tmu y "+dualText(delayed(impl.StepsMax-need+more-1, s))+"))", want)
	}
	// Steps that go on behind both ends: neither of them counts.
	checkDiffer(t, delayed(3, "(cut (mu k "+forever+") (tmu y "+forever+"))"), false)
	checkDiffer(t, delayed(3, "(cut (mu k (cut x l)) (tmu y (cut z m)))"), true)
}

// A statement that comes to no program has no end, though it is not stuck.
func TestOrdersDifferBeyondLimits(t *testing.T) {
	great := "(cut (mu l (cut (not l) " + tree("case", slices.Repeat([]string{"l"}, 60)) + ")) " + tree("case", slices.Repeat([]string{"k"}, 60)) + ")"
	if runText("value", great, 5).stuck {
		t.Fatalf("%q comes to an end", great)
	}
	checkDiffer(t, great, false)
	checkDiffer(t, "(cut (mu k "+great+") (tmu y (cut z m)))", false)
	checkDiffer(t, "(cut (mu k (cut z m)) (tmu y "+great+"))", false)
}

// unusedBoth are statements with a name that is bound and not used, with what is behind the step by value and by name, "" if there is none.
var unusedBoth = [][3]string{
	{"(cut (mu k (cut x l)) m)", "(cut x l)", "(cut x l)"},
	{"(cut (mu k (cut x l)) (fst m))", "(cut x l)", "(cut x l)"},
	{"(cut (mu k0 (cut x0 l)) (neg (mu k0 (cut y k0))))", "(cut x0 l)", "(cut x0 l)"},
	{"(cut (mu k (cut x l)) (fst (tmu y (cut y m))))", "(cut x l)", "(cut (mu k0 (cut (mu k1 (cut x l)) (fst k0))) (tmu x0 (cut x0 m)))"},
	{"(cut (mu k (cut x l)) (tmu y (cut y m)))", "(cut x l)", "(cut (mu k0 (cut x l)) m)"},
	{"(cut (mu k (cut x k)) (tmu y (cut z m)))", "(cut x (tmu x0 (cut z m)))", "(cut z m)"},
	{"(cut (mu k (cut x l)) (tmu y (cut z m)))", "(cut x l)", "(cut z m)"},
	{"(cut (mu k0 (cut x0 l)) (tmu x0 (cut z k0)))", "(cut x0 l)", "(cut z k0)"},
	{"(cut (mu k (cut (mu k (cut x k)) l)) (tmu y (cut z (tmu y (cut y m)))))", "(cut (mu k0 (cut x k0)) l)", "(cut z (tmu x0 (cut x0 m)))"},
	{"(cut x (tmu y (cut z m)))", "(cut z m)", "(cut z m)"},
	{"(cut (inl x) (tmu y (cut z m)))", "(cut z m)", "(cut z m)"},
	{"(cut (inl (mu k (cut x l))) (tmu y (cut z m)))", "(cut (mu k0 (cut x l)) (tmu x0 (cut (inl x0) (tmu x1 (cut z m)))))", "(cut z m)"},
	{"(cut (inl (mu k (cut x l))) m)", "(cut (mu k0 (cut x l)) (tmu x0 (cut (inl x0) m)))", ""},
	{"(cut x (snd (tmu y (cut z m))))", "", "(cut (mu k0 (cut x (snd k0))) (tmu x0 (cut z m)))"},
	{"(cut (not (tmu y (cut z m))) (neg (mu k (cut x l))))", "(cut (mu k0 (cut x l)) (tmu x0 (cut z m)))", "(cut (mu k0 (cut x l)) (tmu x0 (cut z m)))"},
}

func TestNamesThatAreNotUsed(t *testing.T) {
	for _, c := range unusedBoth {
		for i, kind := range []string{"value", "name"} {
			got, ok := impl.StepOf(kind, c[0])
			if ok != (c[1+i] != "") || got != c[1+i] {
				t.Errorf("StepOf %s of %q: %q, %v, not %q", kind, c[0], got, ok, c[1+i])
			}
			if impl.StuckIs(kind, c[0]) == ok {
				t.Errorf("StuckIs %s of %q: %v", kind, c[0], !ok)
			}
		}
		checkDiffer(t, c[0], differText(c[0]))
	}
	m := &maker{state: 94}
	for _, s := range m.unused(300, 3) {
		for kind := range kinds {
			next, rule := stepText(kind, s)
			if got, ok := impl.StepOf(kind, s); ok != (programOnly(next) != "" && rule != "") || ok && got != next {
				t.Errorf("StepOf %s of %q: %q, %v, not %q", kind, s, got, ok, next)
			}
		}
	}
}

// partCases are statements with both sides, as they stand.
var partCases = [][3]string{
	{"(cut x k)", "x", "k"}, {"(cut x999 k000)", "x999", "k000"}, {"(cut x00 m01)", "x00", "m01"}, {"(cut x (fst k))", "x", "(fst k)"}, {"(cut (pair x y) (case k l))", "(pair x y)", "(case k l)"}, {"(cut (inl (inr x)) (snd (fst k)))", "(inl (inr x))", "(snd (fst k))"},
	{"(cut (not k) (neg x))", "(not k)", "(neg x)"}, {"(cut (not (neg (not k))) (neg (not (neg x))))", "(not (neg (not k)))", "(neg (not (neg x)))"},
	// Names that are bound are not changed, though the statements are not canonical.
	{"(cut (mu m (cut x m)) (tmu z (cut z k)))", "(mu m (cut x m))", "(tmu z (cut z k))"}, {"(cut (mu k1 (cut x1 k1)) (tmu x1 (cut x1 k1)))", "(mu k1 (cut x1 k1))", "(tmu x1 (cut x1 k1))"}, {"(cut (mu k00 (cut x k00)) k0)", "(mu k00 (cut x k00))", "k0"},
	{"(cut (mu k (cut (mu k (cut x k)) k)) (tmu x (cut x (tmu x (cut x k)))))", "(mu k (cut (mu k (cut x k)) k))", "(tmu x (cut x (tmu x (cut x k))))"}, {"(cut (mu l (cut x k)) (tmu y (cut x k)))", "(mu l (cut x k))", "(tmu y (cut x k))"},
	{"(cut (pair (mu k (cut x k)) (not (tmu y (cut y l)))) (case k (neg (mu k (cut x k)))))", "(pair (mu k (cut x k)) (not (tmu y (cut y l))))", "(case k (neg (mu k (cut x k))))"},
}

// checkParts holds that a statement has two sides, and is made of them again.
func checkParts(t *testing.T, s string, m string, k string) {
	t.Helper()
	if gotM, gotK, ok := impl.CutParts(s); !ok || gotM != m || gotK != k {
		t.Errorf("CutParts of %q: %q, %q, %v", s, gotM, gotK, ok)
	}
	if got, ok := impl.CutMake(m, k); !ok || got != s {
		t.Errorf("CutMake of %q and %q: %q, %v", m, k, got, ok)
	}
}

func TestCutPartsAndCutMake(t *testing.T) {
	for _, c := range partCases {
		checkParts(t, c[0], c[1], c[2])
		checkParts(t, dualText(c[0]), dualText(c[2]), dualText(c[1]))
	}
	for _, s := range slices.Concat(statementsOnly(somePrograms()), reducible()) {
		parts := textParts(s)
		checkParts(t, s, parts[1], parts[2])
	}
}

// checkMade holds what is made of two texts against what is wanted, "" if there is nothing.
func checkMade(t *testing.T, m string, k string, want string) {
	t.Helper()
	if got, ok := impl.CutMake(m, k); ok != (want != "") || got != want {
		t.Errorf("CutMake of %q and %q: %q, %v, not %q", m, k, got, ok, want)
	}
}

func TestCutMakeOfMany(t *testing.T) {
	terms, coterms := []string{"x"}, []string{"k"}
	for _, s := range somePrograms() {
		switch programKind(s) {
		case "term":
			terms = append(terms, s)
		case "coterm":
			coterms = append(coterms, s)
		}
	}
	for i, m := range terms {
		for _, k := range []string{coterms[i%len(coterms)], coterms[i*7%len(coterms)], "k0"} {
			checkMade(t, m, k, madeText(m, k))
			checkMade(t, k, m, "")
		}
	}
	for i, k := range coterms {
		checkMade(t, terms[i*5%len(terms)], k, madeText(terms[i*5%len(terms)], k))
		checkMade(t, k, k, "")
	}
}

func TestCutMakeOfWrongTexts(t *testing.T) {
	for _, s := range wrongOf("term") {
		checkMade(t, s, "k", "")
		checkMade(t, s, "(tmu x (cut x k))", "")
		checkMade(t, s, s, "")
		checkMade(t, s, "", "")
	}
	for _, s := range wrongOf("coterm") {
		checkMade(t, "x", s, "")
		checkMade(t, "(mu k (cut x k))", s, "")
		checkMade(t, "", s, "")
	}
	// Texts that would only make a statement together.
	for _, c := range [][2]string{{"x (fst", "k)"}, {"(inl", "x) k"}, {"x k", ""}, {"", "x k"}, {"x", "k) "}, {"x", " k"}, {"x ", "k"}, {"(pair x", "y) k"}, {"x", "k)(cut x k"}} {
		checkMade(t, c[0], c[1], "")
	}
}

func TestLimitsOfCutMake(t *testing.T) {
	for _, c := range []struct {
		m, k string
		ok   bool
	}{
		{sized("x", 249), sized("k", 250), true}, {sized("x999", 250), sized("k999", 249), true}, {sized("x", 250), sized("k", 250), false}, {sized("x", 498), "k", true}, {"x", sized("k", 498), true}, {sized("x", 499), "k", false}, {"x", sized("k", 499), false}, {sized("x", 500), sized("k", 500), false},
		{deepened("x", 199), "k", true}, {"x", deepened("k", 199), true}, {deepened("x", 199), deepened("k", 199), true}, {deepened("x", 200), "k", false}, {"x", deepened("k", 200), false}, {deepened("x", 200), deepened("k", 200), false},
	} {
		want := madeText(c.m, c.k)
		if programKind(c.m) != "term" || programKind(c.k) != "coterm" || (want != "") != c.ok {
			t.Fatalf("the helper tells of %q and %q %q", c.m, c.k, want)
		}
		checkMade(t, c.m, c.k, want)
		checkMade(t, dualText(c.k), dualText(c.m), programOnly("(cut "+dualText(c.k)+" "+dualText(c.m)+")"))
		if c.ok {
			checkParts(t, want, c.m, c.k)
		}
	}
}

// A lastingCase is a statement with types for its names, of which one side, made longer, leaves the meaning at all values as it is.
type lastingCase struct {
	s     string
	types []string
	form  string
	term  bool
}

var lastingCases = []lastingCase{
	{"(cut x m)", []string{"a", "a"}, "long", true}, {"(cut x m)", []string{"(- a)", "(- a)"}, "long", false}, {"(cut (mu k (cut x m)) l)", []string{"a", "a", "b"}, "long", true}, {"(cut x (tmu y (cut z l)))", []string{"a", "b", "b"}, "long", false},
	{"(cut (mu k (cut x (neg (not k)))) m)", []string{"(- (- a))", "a"}, "long", true}, {"(cut x (neg (mu k (cut y m))))", []string{"(- a)", "b", "b"}, "long", false},
	// Values.
	{"(cut x m)", []string{"(* a b)", "(* a b)"}, "pair", true}, {"(cut (pair x y) m)", []string{"a", "b", "(* a b)"}, "pair", true}, {"(cut (pair x0 (not k0)) m)", []string{"a", "b", "(* a (- b))"}, "pair", true}, {"(cut x (fst k))", []string{"(* a b)", "a"}, "pair", true}, {"(cut x (snd (neg y)))", []string{"(* a (- b))", "b"}, "pair", true},
	{"(cut x m)", []string{"(- a)", "(- a)"}, "not", true}, {"(cut (not k) m)", []string{"a", "(- a)"}, "not", true}, {"(cut x (neg y))", []string{"(- (+ a b))", "(+ a b)"}, "not", true}, {"(cut (not (fst k)) (neg x))", []string{"a", "(* a b)"}, "not", true}, {"(cut x0 m)", []string{"(- (* a a))", "(- (* a a))"}, "not", true},
	// Coterms of all kinds.
	{"(cut x m)", []string{"(+ a b)", "(+ a b)"}, "pair", false}, {"(cut x (case k l))", []string{"(+ a b)", "a", "b"}, "pair", false}, {"(cut x (tmu y (cut y m)))", []string{"(+ a b)", "(+ a b)"}, "pair", false}, {"(cut x (tmu y (cut z m)))", []string{"(+ a b)", "a", "a"}, "pair", false}, {"(cut (inl x) m)", []string{"a", "(+ a b)"}, "pair", false}, {"(cut (mu k (cut x (neg (not k)))) l)", []string{"(- (- (+ a b)))", "(+ a b)"}, "pair", false},
	// What is no value, but has an element to which it goes.
	{"(cut (mu k (cut x k)) m)", []string{"(* a b)", "(* a b)"}, "pair", true}, {"(cut (pair (mu k (cut x k)) y) m)", []string{"a", "b", "(* a b)"}, "pair", true}, {"(cut (mu k (cut x k)) m)", []string{"(- a)", "(- a)"}, "not", true},
}

func TestLongerFormsThatLastAllMeanings(t *testing.T) {
	for _, c := range lastingCases {
		told := 0
		for n := 1; n <= 3; n++ {
			a := asked{s: c.s, names: freeOf(t, c.s), types: c.types, n: n}
			if _, ok := a.list(); !ok {
				continue
			}
			told++
			m, k := partsOf(t, c.s)
			longer := longerText(c.form, map[bool]string{true: m, false: k}[c.term])
			other, ok := inPlace(t, c.s, longer)
			if !ok || !impl.MeanAlike(c.s, other, a.names, a.types, n) {
				t.Errorf("MeanAlike of %q and %q with %q and %d does not hold", c.s, other, c.types, n)
			}
		}
		if told == 0 {
			t.Errorf("nothing is told of %q with %q", c.s, c.types)
		}
	}
}

// What goes to many elements, or to none, is no value, and its longer forms go elsewhere.
func TestMeaningsOfLongerForms(t *testing.T) {
	twice := "(cut (mu k (cut x (neg (not k)))) m)"
	for _, c := range []struct {
		form        string
		of          string
		x, m        int
		own, longer int
	}{
		// x has the bits for the one bit of m: 1 is its opposite, which the pair form has twice.
		{"pair", "(* a b)", 1, 0, 1, 0}, {"pair", "(* a b)", 1, 1, 0, 1}, {"pair", "(* a b)", 2, 0, 0, 0}, {"pair", "(* a b)", 2, 1, 1, 1}, {"pair", "(* a b)", 0, 1, 0, 0}, {"pair", "(* a b)", 3, 0, 1, 1},
		// x has the bits for the two bits of m: the not form has that one of m which x has for 0 and 1.
		{"not", "(- a)", 1, 0, 1, 0}, {"not", "(- a)", 1, 3, 0, 1}, {"not", "(- a)", 4, 2, 1, 1}, {"not", "(- a)", 4, 3, 0, 1}, {"not", "(- a)", 4, 1, 0, 0}, {"not", "(- a)", 15, 1, 1, 0},
		{"long", "(* a b)", 1, 0, 1, 1}, {"long", "(- a)", 4, 3, 0, 0},
	} {
		a := asked{twice, []string{"x", "m"}, []string{"(- (- " + c.of + "))", c.of}, 1, []int{c.x, c.m}}
		m, _ := partsOf(t, twice)
		other, ok := inPlace(t, twice, longerText(c.form, m))
		if got, okOwn := a.bit(); !okOwn || got != c.own {
			t.Errorf("MeanBit of %q with %q at %v: %d, %v", a.s, a.types, a.values, got, okOwn)
		}
		if got, okOther := a.behind(other).bit(); !ok || !okOther || got != c.longer {
			t.Errorf("MeanBit of %q with %q at %v: %d, %v, not %d", other, a.types, a.values, got, okOther, c.longer)
		}
	}
}
