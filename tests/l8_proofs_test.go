package tests

import (
	"runtime"
	"slices"
	"strconv"
	"strings"
	"sync"
	"testing"
	"testing/synctest"
	"time"

	"loop.example/classicalcontrol/impl"
)

// list makes a list of formulas of a text with commas.
func list(s string) []string {
	if s == "" {
		return nil
	}
	return strings.Split(s, ",")
}

// A foundCase is a sequent, with commas between formulas, and the found proof with the number of its rules.
type foundCase struct {
	left, right string
	proof       string
	rules       int
}

// ruleProofs use each rule, at least alone.
var ruleProofs = []foundCase{
	{"a", "a", "(cut x0 k0)", 1},
	{"(* a b)", "a", "(cut x0 (fst (tmu x1 (cut x0 (snd (tmu x2 (cut x1 k0)))))))", 2},
	{"(* a b)", "b", "(cut x0 (fst (tmu x1 (cut x0 (snd (tmu x2 (cut x2 k0)))))))", 2},
	{"(+ a b)", "a,b", "(cut x0 (case (tmu x1 (cut x1 k0)) (tmu x2 (cut x2 k1))))", 3},
	{"(+ a b)", "b,a", "(cut x0 (case (tmu x1 (cut x1 k1)) (tmu x2 (cut x2 k0))))", 3},
	{"(- a),a", "", "(cut x0 (neg (mu k0 (cut x1 k0))))", 2},
	{"a,b", "(* a b)", "(cut (pair (mu k1 (cut x0 k1)) (mu k2 (cut x1 k2))) k0)", 3},
	{"b,a", "(* a b)", "(cut (pair (mu k1 (cut x1 k1)) (mu k2 (cut x0 k2))) k0)", 3},
	{"a", "(+ a b)", "(cut (inl (mu k1 (cut (inr (mu k2 (cut x0 k1))) k0))) k0)", 2},
	{"b", "(+ a b)", "(cut (inl (mu k1 (cut (inr (mu k2 (cut x0 k2))) k0))) k0)", 2},
	{"", "a,(- a)", "(cut (not (tmu x0 (cut x0 k0))) k1)", 2},
	{"", "(+ a (- a))", "(cut (inl (mu k1 (cut (inr (mu k2 (cut (not (tmu x0 (cut x0 k1))) k2))) k0))) k0)", 3},
	{"(* a (- a))", "", "(cut x0 (fst (tmu x1 (cut x0 (snd (tmu x2 (cut x2 (neg (mu k0 (cut x1 k0))))))))))", 3},
	{"(- (- a))", "a", "(cut x0 (neg (mu k1 (cut (not (tmu x1 (cut x1 k0))) k1))))", 3},
	{"a", "(- (- a))", "(cut (not (tmu x1 (cut x1 (neg (mu k1 (cut x0 k1)))))) k0)", 3},
}

// sameProofs have formulas that are the same on both sides.
var sameProofs = []foundCase{
	// The first one on the left that has such a one, and the first such one on the right.
	{"a,b", "b,a", "(cut x0 k1)", 1},
	{"b,a", "b,a", "(cut x0 k0)", 1},
	{"c,b,a", "a,b", "(cut x1 k1)", 1},
	{"a,a", "a", "(cut x0 k0)", 1},
	{"a", "a,a", "(cut x0 k0)", 1},
	{"a,a", "a,a", "(cut x0 k0)", 1},
	{"c,a,a", "b,b,a,a", "(cut x1 k2)", 1},
	{"c,b,a,a,b", "d,a,a,b,b", "(cut x1 k3)", 1},
	{"c,d,e,a,b", "b,a", "(cut x3 k1)", 1},
	// None of them is a letter, and they are not taken apart.
	{"(* a b)", "(* a b)", "(cut x0 k0)", 1},
	{"(+ a b)", "(+ a b)", "(cut x0 k0)", 1},
	{"(- a)", "(- a)", "(cut x0 k0)", 1},
	{"(- (* a (+ b (- c))))", "(- (* a (+ b (- c))))", "(cut x0 k0)", 1},
	{"(* a a),(+ a b)", "(* a a),(+ a b)", "(cut x0 k0)", 1},
	{"(* c d),(+ a b)", "(* e d),(+ a b)", "(cut x1 k1)", 1},
	{"(* a b),(- a),(+ a b)", "(+ a b),(- a),(* b a)", "(cut x1 k1)", 1},
	// The first kind goes before all others.
	{"(* a b),c", "c", "(cut x1 k0)", 1},
	{"(* a b),a", "a", "(cut x1 k0)", 1},
	{"(+ a b),c", "(* d e),c", "(cut x1 k1)", 1},
	{"c", "(+ c c),(- c),c", "(cut x0 k2)", 1},
	{"(- a),(* a b),a", "(+ a b),(* a b),(- b),a", "(cut x1 k1)", 1},
	// They become the same behind a rule: one of them, or both, with the other behind a rule of its own.
	{"(* (+ a b) c)", "(+ a b)", "(cut x0 (fst (tmu x1 (cut x0 (snd (tmu x2 (cut x1 k0)))))))", 2},
	{"(* c (* a b))", "(* a b)", "(cut x0 (fst (tmu x1 (cut x0 (snd (tmu x2 (cut x2 k0)))))))", 2},
	{"(- (* a b))", "(- (* a b))", "(cut x0 k0)", 1},
	{"(- (* a b)),(* a b)", "c", "(cut x0 (neg (mu k0 (cut x1 k0))))", 2},
	{"(+ a b)", "c,(- (- (+ a b)))", "(cut x0 (case (tmu x1 (cut (not (tmu x2 (cut x2 (neg (mu k0 (cut (inl (mu k2 (cut (inr (mu k3 (cut x1 k2))) k0))) k0)))))) k1)) (tmu x3 (cut (not (tmu x4 (cut x4 (neg (mu k4 (cut (inl (mu k5 (cut (inr (mu k6 (cut x3 k6))) k4))) k4)))))) k1))))", 9},
	{"(* a (* b c))", "(+ (* b c) a)", "(cut x0 (fst (tmu x1 (cut x0 (snd (tmu x2 (cut x2 (fst (tmu x3 (cut x2 (snd (tmu x4 (cut (inl (mu k1 (cut (inr (mu k2 (cut x1 k2))) k0))) k0)))))))))))))", 4},
	{"a,(- (* b c))", "(- (- a)),(- (* c b))", "(cut x1 (neg (mu k1 (cut (not (tmu x2 (cut x2 (neg (mu k2 (cut x0 k2)))))) k0))))", 4},
	// One pair became the same, and another formula stood there before: the first on the left still counts.
	{"b,(* a c)", "a,(+ b d)", "(cut x1 (fst (tmu x0 (cut x1 (snd (tmu x2 (cut x0 k0)))))))", 2},
	{"b,(* a a)", "a", "(cut x1 (fst (tmu x0 (cut x1 (snd (tmu x2 (cut x0 k0)))))))", 2},
	{"b", "(- a),(+ a b)", "(cut (not (tmu x1 (cut (inl (mu k2 (cut (inr (mu k3 (cut x0 k3))) k1))) k1))) k0)", 3},
	{"a,b", "(+ b a),c", "(cut (inl (mu k1 (cut (inr (mu k2 (cut x0 k2))) k0))) k0)", 2},
	{"a", "(+ a a)", "(cut (inl (mu k1 (cut (inr (mu k2 (cut x0 k1))) k0))) k0)", 2},
}

// orderProofs show which formula is taken apart first, and where the new ones are.
var orderProofs = []foundCase{
	// Formulas on the left are taken apart ahead of those on the right.
	{"(* a b)", "(+ a c)", "(cut x0 (fst (tmu x1 (cut x0 (snd (tmu x2 (cut (inl (mu k1 (cut (inr (mu k2 (cut x1 k1))) k0))) k0)))))))", 3},
	{"(- a),b", "(- (+ a c)),b", "(cut x1 k1)", 1},
	{"(- a),(- b)", "(- (+ a b))", "(cut x0 (neg (mu k1 (cut x1 (neg (mu k2 (cut (not (tmu x2 (cut x2 (case (tmu x3 (cut x3 k1)) (tmu x4 (cut x4 k2)))))) k0)))))))", 6},
	{"(- (+ a b))", "(- a)", "(cut x0 (neg (mu k1 (cut (not (tmu x1 (cut (inl (mu k2 (cut (inr (mu k3 (cut x1 k2))) k1))) k1))) k0))))", 4},
	// The first one on the left, behind letters; and letters are never.
	{"c,(* a b),(* b a)", "b", "(cut x1 (fst (tmu x0 (cut x1 (snd (tmu x2 (cut x2 k0)))))))", 2},
	{"(+ a b),(- a)", "b", "(cut x0 (case (tmu x2 (cut x1 (neg (mu k1 (cut x2 k1))))) (tmu x3 (cut x3 k0))))", 4},
	{"(- a),(+ a b)", "b", "(cut x0 (neg (mu k1 (cut x1 (case (tmu x2 (cut x2 k1)) (tmu x3 (cut x3 k0)))))))", 4},
	// The first one on the right, behind letters.
	{"a", "c,(+ b d),(+ a b)", "(cut (inl (mu k0 (cut (inr (mu k3 (cut (inl (mu k4 (cut (inr (mu k5 (cut x0 k4))) k2))) k2))) k1))) k1)", 3},
	{"a,b", "(- c),(* a b)", "(cut (not (tmu x2 (cut (pair (mu k2 (cut x0 k2)) (mu k3 (cut x1 k3))) k1))) k0)", 4},
	// New ones are behind those that are there: the old second formula is the next one.
	{"(* (- a) b),(+ b c)", "b,c", "(cut x0 (fst (tmu x1 (cut x0 (snd (tmu x2 (cut x2 k0)))))))", 2},
	{"(* (* b d) d),(+ a b)", "a,b", "(cut x0 (fst (tmu x2 (cut x0 (snd (tmu x3 (cut x1 (case (tmu x4 (cut x4 k0)) (tmu x5 (cut x5 k1))))))))))", 4},
	{"(* (* b d) d),(+ a c)", "b", "(cut x0 (fst (tmu x2 (cut x0 (snd (tmu x3 (cut x1 (case (tmu x4 (cut x2 (fst (tmu x5 (cut x2 (snd (tmu x6 (cut x5 k0)))))))) (tmu x7 (cut x2 (fst (tmu x8 (cut x2 (snd (tmu x9 (cut x8 k0))))))))))))))))", 6},
	{"a", "(+ (+ a d) d),(- b)", "(cut (inl (mu k2 (cut (inr (mu k3 (cut (not (tmu x1 (cut (inl (mu k4 (cut (inr (mu k5 (cut x0 k4))) k2))) k2))) k1))) k0))) k0)", 4},
	// The second part is behind the first one.
	{"(* (- a) (+ b c))", "b,c", "(cut x0 (fst (tmu x1 (cut x0 (snd (tmu x2 (cut x1 (neg (mu k2 (cut x2 (case (tmu x3 (cut x3 k0)) (tmu x4 (cut x4 k1)))))))))))))", 5},
	{"a", "(+ (- b) (- (- a)))", "(cut (inl (mu k1 (cut (inr (mu k2 (cut (not (tmu x1 (cut (not (tmu x2 (cut x2 (neg (mu k3 (cut x0 k3)))))) k2))) k1))) k0))) k0)", 5},
}

// namedProofs have bound names that leave out those that are free, and no others.
var namedProofs = []foundCase{
	{"c,(* a b)", "b", "(cut x1 (fst (tmu x0 (cut x1 (snd (tmu x2 (cut x2 k0)))))))", 2},
	{"c,d,(* a b)", "e,b", "(cut x2 (fst (tmu x0 (cut x2 (snd (tmu x1 (cut x1 k1)))))))", 2},
	{"a", "c,d,(+ b a)", "(cut (inl (mu k0 (cut (inr (mu k1 (cut x0 k1))) k2))) k2)", 2},
	{"b,(- a),a", "c", "(cut x1 (neg (mu k0 (cut x2 k0))))", 2},
	{"c", "d,(- a),a", "(cut (not (tmu x0 (cut x0 k2))) k1)", 2},
	// More than ten formulas on a side.
	{"b,c,d,e,f,g,h,i,j,k,a", "a", "(cut x10 k0)", 1},
	{"a", "b,c,d,e,f,g,h,i,j,k,a", "(cut x0 k10)", 1},
	{"b,c,d,e,f,g,h,i,j,k,(- a),a", "", "(cut x10 (neg (mu k0 (cut x11 k0))))", 2},
	{"", "b,c,d,e,f,g,h,i,j,k,a,(- a)", "(cut (not (tmu x0 (cut x0 k10))) k11)", 2},
	{"b,c,d,e,f,g,h,i,j,k,(* a m)", "a", "(cut x10 (fst (tmu x0 (cut x10 (snd (tmu x1 (cut x0 k0)))))))", 2},
	{"b,a,c,d,e,f,g,h,i,j,(* k (- a))", "", "(cut x10 (fst (tmu x0 (cut x10 (snd (tmu x2 (cut x2 (neg (mu k0 (cut x1 k0))))))))))", 3},
}

// unprovable have no proof, with letters that are not the same, or on one side only.
var unprovable = []foundCase{
	{"", "", "", -1}, {"a", "", "", -1}, {"", "a", "", -1}, {"a", "b", "", -1}, {"a,b,c", "d,e", "", -1}, {"a", "a0", "", -1}, {"a0", "a00", "", -1}, {"b,c,d,e,f,g,h,i,j,k,l,m", "", "", -1}, {"b,c,d,e,f,g", "h,i,j,k,l,m", "", -1},
	{"(* a b)", "c", "", -1}, {"(+ a b)", "a", "", -1}, {"(+ a b)", "b", "", -1}, {"(+ a b)", "(* a b)", "", -1}, {"a", "(* a b)", "", -1}, {"b", "(* a b)", "", -1}, {"", "(+ a b)", "", -1}, {"(* a b)", "", "", -1}, {"(- a)", "a", "", -1}, {"a", "(- a)", "", -1}, {"(- a)", "", "", -1}, {"", "(- a)", "", -1},
	{"(+ a b)", "", "", -1}, {"", "(* a b)", "", -1}, {"(+ a (- a))", "", "", -1}, {"", "(* a (- a))", "", -1}, {"", "(- (* (- a) b))", "", -1}, {"(- (* a (- b))),b", "a", "", -1}, {"(- (- a))", "b", "", -1}, {"(- a),(- b)", "(- c)", "", -1}, {"(* a b),(+ c d)", "c,(* d e)", "", -1}, {"(- a)", "(- (+ a b))", "", -1},
}

// checkGoal holds what is found for a sequent against the helper, and its proof against that of a case.
func checkGoal(t *testing.T, g goal) {
	t.Helper()
	got, ok := impl.Prove(g.left, g.right)
	if ok != (g.proof != "") || got != g.proof {
		t.Errorf("Prove of %q and %q: %q, %v, not %q", g.left, g.right, got, ok, g.proof)
	}
	if got := impl.ProofRules(g.left, g.right); got != g.rules {
		t.Errorf("ProofRules of %q and %q: %d, not %d", g.left, g.right, got, g.rules)
	}
	if g.proof != "" && !impl.ProofIs(g.proof, g.left, g.right) {
		t.Errorf("%q is no proof of %q and %q", g.proof, g.left, g.right)
	}
	if len(g.left) > 0 || len(g.right) != 1 {
		return
	}
	term := ""
	if g.proof != "" {
		term = "(mu k0 " + g.proof + ")"
	}
	if got, ok := impl.ProveTerm(g.right[0]); ok != (term != "") || got != term {
		t.Errorf("ProveTerm of %q: %q, %v, not %q", g.right[0], got, ok, term)
	}
}

func TestFoundProofs(t *testing.T) {
	for _, c := range slices.Concat(ruleProofs, sameProofs, orderProofs, namedProofs, unprovable) {
		g := goal{list(c.left), list(c.right), c.proof, c.rules}
		checkGoal(t, g)
		if proof, rules := proofText(g.left, g.right); proof != c.proof || rules != c.rules {
			t.Errorf("the helper tells of %q and %q %q, %d", g.left, g.right, proof, rules)
		}
		if isValid(g.left, g.right) != (c.proof != "") {
			t.Errorf("%q and %q: valid, or not", g.left, g.right)
		}
	}
}

func TestProveAsTheHelper(t *testing.T) {
	some, none, far := 0, 0, 0
	for _, g := range goals() {
		checkGoal(t, g)
		switch {
		case g.proof == "":
			none++
		case g.rules > 5:
			far++
			fallthrough
		default:
			some++
		}
	}
	if some < 1500 || none < 500 || far < 300 {
		t.Errorf("just %d proofs, %d of them of many rules, and %d sequents without one", some, far, none)
	}
}

func TestEmptyAndNilLists(t *testing.T) {
	for _, none := range [][]string{nil, {}} {
		if s, ok := impl.Prove(none, none); ok || s != "" || impl.ProofRules(none, none) != -1 {
			t.Errorf("Prove without formulas: %q, %v", s, ok)
		}
		if s, ok := impl.Prove([]string{"(* a (- a))"}, none); !ok || s != "(cut x0 (fst (tmu x1 (cut x0 (snd (tmu x2 (cut x2 (neg (mu k0 (cut x1 k0))))))))))" || impl.ProofRules([]string{"(* a (- a))"}, none) != 3 {
			t.Errorf("Prove with nothing on the right: %q, %v", s, ok)
		}
		if s, ok := impl.Prove(none, []string{"(+ a (- a))"}); !ok || s != "(cut (inl (mu k1 (cut (inr (mu k2 (cut (not (tmu x0 (cut x0 k1))) k2))) k0))) k0)" || impl.ProofRules(none, []string{"(+ a (- a))"}) != 3 {
			t.Errorf("Prove with nothing on the left: %q, %v", s, ok)
		}
		checkProof(t, proof{"(cut x0 (neg x1))", []string{"(- a)", "a"}, none}, true)
		checkProof(t, proof{"(cut (not k0) k1)", none, []string{"a", "(- a)"}}, true)
		for _, s := range []string{"(cut x k)", "(cut x0 k0)", forever, "(cut (mu k0 (cut x0 k0)) (tmu x0 (cut x0 k0)))", "(cut (not (tmu x0 (cut x0 k0))) (neg (mu k0 (cut x0 k0))))"} {
			checkProof(t, proof{s, none, none}, false)
		}
	}
}

// A statementCase is a statement and a sequent, with commas between formulas, and whether it is a proof.
type statementCase struct {
	s, left, right string
	is             bool
}

func (c statementCase) proof() proof { return proof{c.s, list(c.left), list(c.right)} }

var statementCases = []statementCase{
	{"(cut x0 k0)", "a", "a", true}, {"(cut x0 k0)", "(* a (- b))", "(* a (- b))", true}, {"(cut x0 k0)", "a", "b", false}, {"(cut x0 k0)", "(* a b)", "(* b a)", false}, {"(cut x0 k0)", "(* a b)", "(+ a b)", false}, {"(cut x0 k0)", "a0", "a00", false}, {"(cut x0 k0)", "(* a b)", "a", false}, {"(cut x0 k0)", "a", "(- a)", false},
	// Not every formula's name is free.
	{"(cut x0 k0)", "a,b", "a", true}, {"(cut x0 k0)", "a", "a,b", true}, {"(cut x0 k0)", "a,(* b c),(- a)", "a,b,(+ a a)", true}, {"(cut x1 k0)", "b,a,c", "a,c", true}, {"(cut x0 k1)", "a,b", "b,a", true}, {"(cut x0 k0)", "b,a", "a", false}, {"(cut x0 k0)", "a", "b,a", false}, {"(cut x1 k1)", "a,b", "a,b", true}, {"(cut x1 k1)", "b,a", "a,b", false},
	// A name is free that is of no formula.
	{"(cut x0 k0)", "a", "", false}, {"(cut x0 k0)", "", "a", false}, {"(cut x1 k0)", "a", "a", false}, {"(cut x0 k1)", "a", "a", false}, {"(cut x2 k0)", "a,a", "a,a,a", false}, {"(cut x0 k12)", "a", "a,a", false}, {"(cut y0 k0)", "a", "a", false}, {"(cut z0 k0)", "a", "a", false}, {"(cut x0 l0)", "a", "a", false}, {"(cut x0 m0)", "a", "a", false}, {"(cut x k0)", "a", "a", false}, {"(cut x0 k)", "a", "a", false}, {"(cut x00 k0)", "a", "a", false}, {"(cut x0 k00)", "a", "a", false}, {"(cut x01 k0)", "a,a", "a", false},
	{"(cut (mu k1 (cut x0 k2)) k0)", "a", "a", false}, {"(cut (mu k1 (cut x0 k1)) (tmu x1 (cut x2 k0)))", "a", "a", false}, {"(cut (mu y (cut x0 k0)) k0)", "a", "a", false}, {"(cut x0 (tmu y (cut y l)))", "a", "a", false}, {"(cut (mu l (cut x0 k0)) l)", "a", "a", false},
	// The same formula twice.
	{"(cut x0 k0)", "a,a", "a,a", true}, {"(cut x0 k1)", "a,a", "a,a", true}, {"(cut x1 k0)", "a,a", "a,a", true}, {"(cut x1 k1)", "a,a", "a,a", true}, {"(cut x1 k0)", "(- a),(- a)", "(- a)", true}, {"(cut (pair x0 x1) k0)", "a,a", "(* a a),(* a a)", true}, {"(cut (pair x1 x1) k1)", "a,a", "(* a a),(* a a)", true},
	// Names of formulas are bound, where they may have other types.
	{"(cut (mu k0 (cut x0 k0)) k0)", "a", "a", true}, {"(cut x0 (tmu x0 (cut x0 k0)))", "a", "a", true}, {"(cut (mu k0 (cut x0 k0)) (tmu x0 (cut x0 k0)))", "a", "a", true}, {"(cut (mu k0 (cut x0 k0)) k1)", "a", "b,a", true}, {"(cut (mu k1 (cut x0 k1)) k0)", "a", "a,b", true}, {"(cut x1 (tmu x0 (cut x0 k0)))", "b,a", "a", true},
	{"(cut (inl (mu k0 (cut x0 k0))) k0)", "a", "(+ a b)", true}, {"(cut x0 (fst (tmu x0 (cut x0 k0))))", "(* a b)", "a", true}, {"(cut x0 (fst (tmu x0 (cut x0 k0))))", "(* a b)", "b", false}, {"(cut (mu k0 (cut x0 k0)) k0)", "a", "b", false}, {"(cut (mu k0 (cut x0 k1)) k0)", "a", "b,a", true}, {"(cut (mu k0 (cut x0 k1)) k0)", "a", "b", false},
	// Each form, of its type and of others.
	{"(cut (pair x0 x1) k0)", "a,b", "(* a b)", true}, {"(cut (pair x0 x1) k0)", "b,a", "(* a b)", false}, {"(cut (pair x0 x1) k0)", "a,b", "(+ a b)", false}, {"(cut (inl x0) k0)", "a", "(+ a b)", true}, {"(cut (inl x0) k0)", "a", "(+ b a)", false}, {"(cut (inr x0) k0)", "a", "(+ b a)", true}, {"(cut (inr x0) k0)", "a", "(+ a b)", false}, {"(cut (inl x0) k0)", "a", "(* a b)", false}, {"(cut (not k0) k1)", "", "a,(- a)", true}, {"(cut (not k0) k1)", "", "a,(- b)", false}, {"(cut (not k1) k0)", "", "a,(- a)", false},
	{"(cut x0 (case k0 k1))", "(+ a b)", "a,b", true}, {"(cut x0 (case k0 k1))", "(+ a b)", "b,a", false}, {"(cut x0 (case k0 k1))", "(* a b)", "a,b", false}, {"(cut x0 (fst k0))", "(* a b)", "a", true}, {"(cut x0 (fst k0))", "(* b a)", "a", false}, {"(cut x0 (snd k0))", "(* b a)", "a", true}, {"(cut x0 (snd k0))", "(+ b a)", "a", false}, {"(cut x0 (neg x1))", "(- a),a", "", true}, {"(cut x0 (neg x1))", "a,(- a)", "", false}, {"(cut x0 (neg x1))", "(- a),b", "", false},
	// What is cut within has types of its own, whatever they are.
	{"(cut (mu k1 (cut x0 k1)) (tmu x1 (cut x1 k0)))", "a", "a", true}, {"(cut (mu k5 (cut x0 k0)) (tmu z (cut x0 k0)))", "a", "a", true}, {"(cut (pair (not k0) x0) (tmu y (cut x0 k0)))", "a", "a", true}, {"(cut (mu m (cut x0 k0)) (case k1 (tmu x (cut (inl x) k2))))", "a", "a,b,(+ (- c) (* c b))", true},
	// Without types.
	{"(cut x0 (neg x0))", "(- a)", "", false}, {"(cut (pair x0 x0) (neg x1))", "a,a", "a", false}, {"(cut (inl x0) (fst k0))", "a", "a", false}, {"(cut (mu k1 (cut x0 (neg x0))) k0)", "a", "a", false}, {"(cut (mu k1 (cut (not k1) k1)) (tmu x1 (cut x0 k0)))", "a", "a", false},
	// x10 and k10.
	{"(cut x10 k0)", "b,c,d,e,f,g,h,i,j,k,a", "a", true}, {"(cut x0 k10)", "a", "b,c,d,e,f,g,h,i,j,k,a", true}, {"(cut x10 k0)", "a,a,a,a,a,a,a,a,a,a", "a", false}, {"(cut x1 k0)", "b,c,d,e,f,g,h,i,j,k,a", "a", false}, {"(cut x11 (neg x10))", "b,c,d,e,f,g,h,i,j,k,a,(- a)", "", true}, {"(cut (not k10) k11)", "", "b,c,d,e,f,g,h,i,j,k,a,(- a)", true},
	// No sequents: 13 formulas.
	{"(cut x0 k0)", "a,b,c,d,e,f", "a,b,c,d,e,f", true}, {"(cut x0 k0)", "a,b,c,d,e,f,g", "a,b,c,d,e,f", false}, {"(cut x0 k0)", "a,b,c,d,e,f", "a,b,c,d,e,f,g", false}, {"(cut x0 (neg x1))", "(- a),a,c,d,e,f,g,h,i,j,k,l", "", true}, {"(cut x0 (neg x1))", "(- a),a,c,d,e,f,g,h,i,j,k,l,m", "", false}, {"(cut (not k0) k1)", "", "a,(- a),c,d,e,f,g,h,i,j,k,l,m", false},
}

// checkProof tells whether a statement is a proof, and holds its dual against the helper.
func checkProof(t *testing.T, p proof, is bool) {
	t.Helper()
	if got := impl.ProofIs(p.s, p.left, p.right); got != is {
		t.Errorf("ProofIs of %q with %q and %q: %v", p.s, p.left, p.right, got)
	}
	dual, left, right, ok := impl.ProofDual(p.s, p.left, p.right)
	want := proof{}
	if is {
		want = proof{canonOfText(dualText(p.s)), duals(p.right), duals(p.left)}
	}
	if ok != is || dual != want.s || !slices.Equal(left, want.left) || !slices.Equal(right, want.right) {
		t.Errorf("ProofDual of %q with %q and %q: %q, %q, %q, %v, not %q", p.s, p.left, p.right, dual, left, right, ok, want)
	}
}

func TestStatementsAsProofs(t *testing.T) {
	for _, c := range statementCases {
		p := c.proof()
		checkProof(t, p, c.is)
		if isProof(p.s, p.left, p.right) != c.is {
			t.Errorf("the helper tells something else of %q with %q and %q", p.s, p.left, p.right)
		}
		if c.is && !isValid(p.left, p.right) {
			t.Errorf("%q and %q are not valid", p.left, p.right)
		}
	}
}

// changed are sequents like that of a proof, of which it may be none.
func (p proof) changed() []proof {
	var some []proof
	for i := range p.left {
		some = append(some, proof{p.s, slices.Concat(p.left[:i], p.left[i+1:]), p.right}, proof{p.s, slices.Concat(p.left[:i], []string{"(- " + p.left[i] + ")"}, p.left[i+1:]), p.right})
	}
	for i := range p.right {
		some = append(some, proof{p.s, p.left, slices.Concat(p.right[:i], p.right[i+1:])}, proof{p.s, p.left, slices.Concat(p.right[:i], []string{"c9"}, p.right[i+1:])})
	}
	left, right := slices.Clone(p.left), slices.Clone(p.right)
	slices.Reverse(left)
	slices.Reverse(right)
	return append(some, proof{p.s, left, p.right}, proof{p.s, p.left, right}, proof{p.s, p.right, p.left}, proof{p.s, nil, nil}, proof{p.s, append(left, p.left...), right})
}

func TestProofIsAsTheHelper(t *testing.T) {
	some, none := 0, 0
	for i, p := range someProofs() {
		checkProof(t, p, true)
		if !isProof(p.s, p.left, p.right) {
			t.Errorf("the helper tells that %q is no proof of %q and %q", p.s, p.left, p.right)
		}
		for j, q := range p.changed() {
			if (i+j)%3 > 0 {
				continue
			}
			is := isProof(q.s, q.left, q.right)
			checkProof(t, q, is)
			if is {
				some++
			} else {
				none++
			}
		}
	}
	if some < 300 || none < 1000 {
		t.Errorf("just %d changed ones are proofs, and %d are none", some, none)
	}
}

func TestProofDual(t *testing.T) {
	for _, c := range []struct {
		s, left, right            string
		dual, leftDual, rightDual string
	}{
		{"(cut x0 k0)", "a", "a", "(cut x0 k0)", "a", "a"},
		{"(cut x0 k0)", "(* a b)", "(* a b)", "(cut x0 k0)", "(+ a b)", "(+ a b)"},
		{"(cut x1 k0)", "b,a", "a,c,(* a b)", "(cut x0 k1)", "a,c,(+ a b)", "b,a"},
		{"(cut x0 k2)", "a", "b,(+ c (- d)),a", "(cut x2 k0)", "b,(* c (- d)),a", "a"},
		{"(cut x0 (fst k0))", "(* a b)", "a", "(cut (inl x0) k0)", "a", "(+ a b)"},
		{"(cut x1 (neg x0))", "a,(- a)", "", "(cut (not k0) k1)", "", "a,(- a)"},
		{"(cut (not k1) k0)", "", "(- (* a (+ b c))),(* a (+ b c))", "(cut x0 (neg x1))", "(- (+ a (* b c))),(+ a (* b c))", ""},
		{"(cut x0 (case k1 k0))", "(+ (* a b) c)", "c,(* a b)", "(cut (pair x1 x0) k0)", "c,(+ a b)", "(* (+ a b) c)"},
		// What is bound has the first names that are not free.
		{"(cut (mu k0 (cut x0 k0)) k0)", "a", "a", "(cut x0 (tmu x1 (cut x1 k0)))", "a", "a"},
		{"(cut x0 (tmu x0 (cut x0 k0)))", "a", "a", "(cut (mu k1 (cut x0 k1)) k0)", "a", "a"},
		{"(cut x1 (tmu x7 (cut x7 k1)))", "b,a", "b,a", "(cut (mu k0 (cut x1 k0)) k1)", "b,a", "b,a"},
		{"(cut (mu m9 (cut x0 m9)) (tmu y (cut y k0)))", "a", "a", "(cut (mu k1 (cut x0 k1)) (tmu x1 (cut x1 k0)))", "a", "a"},
		{"(cut (mu k3 (cut (mu k4 (cut x0 k4)) k3)) (tmu x5 (cut x5 k0)))", "a", "a", "(cut (mu k1 (cut x0 k1)) (tmu x1 (cut x1 (tmu x2 (cut x2 k0)))))", "a", "a"},
		{"(cut (inl (mu k1 (cut (inr (mu k2 (cut (not (tmu x0 (cut x0 k1))) k2))) k0))) k0)", "", "(+ a (- a))", "(cut x0 (fst (tmu x1 (cut x0 (snd (tmu x2 (cut x2 (neg (mu k0 (cut x1 k0))))))))))", "(* a (- a))", ""},
		{"(cut x10 k0)", "b,c,d,e,f,g,h,i,j,k,a", "a", "(cut x0 k10)", "a", "b,c,d,e,f,g,h,i,j,k,a"},
		{"(cut (not k10) k11)", "", "b,c,d,e,f,g,h,i,j,k,a,(- a)", "(cut x11 (neg x10))", "b,c,d,e,f,g,h,i,j,k,a,(- a)", ""},
	} {
		dual, left, right, ok := impl.ProofDual(c.s, list(c.left), list(c.right))
		if !ok || dual != c.dual || !slices.Equal(left, list(c.leftDual)) || !slices.Equal(right, list(c.rightDual)) {
			t.Errorf("ProofDual of %q with %q and %q: %q, %q, %q, %v", c.s, c.left, c.right, dual, left, right, ok)
		}
		checkProof(t, proof{dual, left, right}, true)
	}
}

func TestProveBoth(t *testing.T) {
	short, long := chain("+", append(numbered(10), "(- a0)")), chain("+", append(numbered(29), "(- a0)"))
	for _, c := range []struct {
		a, b string
		want bool
	}{
		{"a", "a", true}, {"(- (- a))", "a", true}, {"(* a b)", "(* b a)", true}, {"(+ a b)", "(+ b a)", true}, {"(- (* a b))", "(+ (- a) (- b))", true}, {"(- (+ a b))", "(* (- a) (- b))", true}, {"(* a (+ b c))", "(+ (* a b) (* a c))", true}, {"(* a a)", "a", true}, {"(+ a (* a b))", "a", true}, {"(+ a (- a))", "(+ b (- b))", true}, {"(* a (- a))", "(* b (- b))", true}, {"(- (* a (- b)))", "(- (* (- b) (- (- a))))", true},
		{"a", "b", false}, {"(- a)", "a", false}, {"a", "(+ a b)", false}, {"(* a b)", "a", false}, {"(* a b)", "(+ a b)", false}, {"(+ a (- a))", "(* b (- b))", false}, {"(+ a (- a))", "b", false}, {"(* a (- a))", "b", false}, {"(- (* a b))", "(* (- a) (- b))", false}, {"a0", "a00", false},
		// Of the longer one the proof on the left is no program.
		{short, "(+ a (- a))", true}, {long, "(+ a (- a))", false}, {nots(58, "a"), nots(2, "a"), true}, {nots(59, "a"), "(- a)", true}, {nots(59, "a"), "a", false},
	} {
		if got := impl.ProveBoth(c.a, c.b); got != c.want {
			t.Errorf("ProveBoth of %q and %q: %v", c.a, c.b, got)
		}
		if got := impl.ProveBoth(c.b, c.a); got != c.want {
			t.Errorf("ProveBoth of %q and %q: %v", c.b, c.a, got)
		}
	}
	// Both hold in the same assignments, but one of the proofs is no program.
	great := tree("*", slices.Repeat([]string{"(+ (* a a) (+ (* a a) (* a a)))"}, 4))
	_, to := proofText([]string{great}, []string{"a"})
	_, from := proofText([]string{"a"}, []string{great})
	if to != -1 || from < 1 || !isValid([]string{great}, []string{"a"}) || impl.ProveBoth(great, "a") || impl.ProveBoth("a", great) || !impl.ProveBoth(great, great) {
		t.Errorf("ProveBoth of %q, with %d and %d rules", great, to, from)
	}
	made := 0
	m := &maker{state: 83}
	for range 1500 {
		a, b := m.formula(1+m.below(7), fewNames[:2]), m.formula(1+m.below(7), fewNames[:2])
		want := isValid([]string{a}, []string{b}) && isValid([]string{b}, []string{a})
		if got := impl.ProveBoth(a, b); got != want {
			t.Errorf("ProveBoth of %q and %q: %v", a, b, got)
		}
		if want && a != b {
			made++
		}
	}
	if made < 30 {
		t.Errorf("just %d hold in the same assignments", made)
	}
}

func TestSequentsOfTwelveFormulas(t *testing.T) {
	for formulas := 11; formulas <= 14; formulas++ {
		for onLeft := range formulas + 1 {
			names := numbered(formulas)
			left, right := slices.Clone(names[:onLeft]), slices.Clone(names[onLeft:])
			last := strconv.Itoa(formulas - 1)
			g := goal{left, right, "(cut x" + strconv.Itoa(onLeft-1) + " k" + strconv.Itoa(len(right)-1) + ")", 1}
			switch onLeft {
			case 0:
				right[0] = "(- " + right[formulas-1] + ")"
				g.proof, g.rules = "(cut (not (tmu x0 (cut x0 k"+last+"))) k0)", 2
			case formulas:
				left[0] = "(- " + left[formulas-1] + ")"
				g.proof, g.rules = "(cut x0 (neg (mu k0 (cut x"+last+" k0))))", 2
			default:
				right[len(right)-1] = left[onLeft-1]
			}
			checkProof(t, proof{g.proof, left, right}, formulas <= 12)
			if formulas > 12 {
				g.proof, g.rules = "", -1
			}
			checkGoal(t, g)
		}
	}
}

func TestFormulasOfFormulaMax(t *testing.T) {
	if impl.FormulaMax != 60 {
		t.Errorf("FormulaMax is %d", impl.FormulaMax)
	}
	for atoms, is := range map[int]bool{59: true, 60: true, 61: false, 62: false} {
		f := nots(atoms-1, "a")
		g := goal{slices.Repeat([]string{f}, 6), slices.Repeat([]string{f}, 6), "", -1}
		none := goal{nil, nil, "", -1}
		if is {
			g.proof, g.rules = "(cut x0 k0)", 1
			none.proof, none.rules = "(cut x0 k0)", 1
		}
		checkGoal(t, g)
		for _, q := range [][2][]string{{{"a", f}, {"a"}}, {{"a"}, {"a", f}}, {{f}, {f}}} {
			checkGoal(t, goal{q[0], q[1], none.proof, none.rules})
			checkProof(t, proof{"(cut x0 k0)", q[0], q[1]}, is)
		}
		if impl.ProveBoth(f, f) != is || impl.ProveBoth(f, nots(atoms%2+1, "a")) != is || impl.ProveBoth(nots(atoms%2+1, "a"), f) != is {
			t.Errorf("ProveBoth of %q with %d atoms", f, atoms)
		}
		// On the right alone, with as many atoms.
		alone := "(+ (- " + nots(28, "a") + ") " + nots(atoms-32, "a") + ")"
		term, ok := impl.ProveTerm(alone)
		if ok != (is && atoms%2 == 0) || !ok && term != "" {
			t.Errorf("ProveTerm of %q with %d atoms: %q, %v", alone, atoms, term, ok)
		}
		want, rules := proofText(nil, []string{alone})
		checkGoal(t, goal{nil, []string{alone}, want, rules})
	}
	if got, ok := impl.ProveTerm("(+ (- " + nots(28, "a") + ") " + nots(28, "a") + ")"); !ok || got != "(mu k0 (cut (inl (mu k1 (cut (inr (mu k2 (cut (not (tmu x0 (cut x0 k2))) k1))) k0))) k0))" {
		t.Errorf("ProveTerm of 60 atoms: %q, %v", got, ok)
	}
}

// A limitCase is a sequent that is valid, with the atoms of its proof and how many parentheses are within each other there,
// which are -1 if this is no program.
type limitCase struct {
	left, right []string
	atoms, nest int
}

// twofold is a sequent with so many opposites, and then both branches with so many pairs.
func twofold(opposites int, pairs int) limitCase {
	var left []string
	for _, f := range numbered(opposites) {
		left = append(left, "(- "+f+")")
	}
	return limitCase{left: append(left, "(+ b c)", "a"), right: []string{chain("*", slices.Repeat([]string{"a"}, 1+pairs))}}
}

func (c limitCase) with(atoms int, nest int) limitCase {
	c.atoms, c.nest = atoms, nest
	return c
}

// alone is a formula whose proof has both branches with so many pairs, behind so many opposites of opposites.
func alone(twice int, pairs int) string {
	return nots(2*twice, "(+ (- (* a (+ b c))) "+chain("*", slices.Repeat([]string{"a"}, 1+pairs))+")")
}

// limitCases have proofs near the limits. All proofs have 5 atoms for each opposite, 10 for each other rule but the first
// kind, and 3, so that none has just 499 or 500; and parentheses go within each other 3 or 6 at a time, so that none has just 200.
// So with mu k0 ahead of it a proof has at most 500 atoms, and, as one formula alone comes to less than 180 parentheses within
// each other, there is no proof of one of which the term is no program.
var limitCases = []limitCase{
	twofold(1, 24).with(498, 79), twofold(2, 24).with(-1, -1), twofold(0, 24).with(493, 76), twofold(3, 23).with(488, 82), twofold(5, 23).with(498, 88), twofold(6, 23).with(-1, -1), twofold(9, 22).with(498, 97), twofold(1, 25).with(-1, -1), twofold(0, 25).with(-1, -1), twofold(0, 29).with(-1, -1), twofold(5, 22).with(478, 85),
	{nil, []string{alone(0, 23)}, 498, 88}, {nil, []string{alone(1, 23)}, -1, -1}, {nil, []string{alone(2, 22)}, 498, 97}, {nil, []string{alone(3, 22)}, -1, -1}, {nil, []string{alone(0, 24)}, -1, -1}, {nil, []string{alone(1, 22)}, 488, 91},
	// Each opposite puts three parentheses around the others, and each rule that takes two formulas out of one puts six.
	{[]string{nots(40, "p")}, []string{nots(26, "p")}, 333, 199}, {[]string{nots(40, "p")}, []string{nots(26, "(+ p q)")}, -1, -1}, {[]string{nots(38, "p")}, []string{nots(26, "(+ p q)")}, 333, 199}, {[]string{nots(40, "p")}, []string{nots(26, "(* p p)")}, -1, -1}, {[]string{nots(38, "p")}, []string{nots(26, "(* p p)")}, 388, 196},
	{[]string{nots(38, "p")}, []string{nots(28, "p")}, 333, 199}, {[]string{nots(42, "p")}, []string{nots(26, "p")}, -1, -1}, {[]string{nots(40, "p")}, []string{nots(24, "p")}, 323, 193}, {[]string{nots(38, "(+ p p)")}, []string{nots(26, "p")}, 333, 196}, {[]string{nots(40, "(+ p p)")}, []string{nots(26, "p")}, -1, -1}, {[]string{nots(38, "(* q p)")}, []string{nots(26, "p")}, 333, 199}, {[]string{nots(40, "(* q p)")}, []string{nots(26, "p")}, -1, -1},
}

func TestProofsOfProgramMax(t *testing.T) {
	if impl.ProgramMax != 500 {
		t.Errorf("ProgramMax is %d", impl.ProgramMax)
	}
	for _, c := range limitCases {
		want, rules := proofText(c.left, c.right)
		if !isSequent(c.left, c.right) || impl.ProgramSize(want) != c.atoms || c.atoms >= 0 && nesting(want) != c.nest {
			t.Errorf("the helper tells of %q and %q %d atoms, %d", c.left, c.right, impl.ProgramSize(want), nesting(want))
		}
		if len(formulaLetters(slices.Concat(c.left, c.right)...)) <= 10 && !isValid(c.left, c.right) {
			t.Errorf("%q and %q are not valid", c.left, c.right)
		}
		checkGoal(t, goal{c.left, c.right, want, rules})
		if len(c.left)+len(c.right) > 10 {
			continue
		}
		// Letters that are in the way of nothing change nothing, but for the names.
		more := goal{left: append([]string{"e"}, c.left...), right: append([]string{"f"}, c.right...)}
		more.proof, more.rules = proofText(more.left, more.right)
		if more.rules != rules {
			t.Errorf("%q and %q have %d rules, not %d", more.left, more.right, more.rules, rules)
		}
		checkGoal(t, more)
	}
}

// tooLarge are sequents whose proofs would be far larger than ProgramMax, or whose branches fail only at their ends, and few that are like them and have a proof.
var tooLarge = sync.OnceValue(func() []goal {
	letters := numbered(30)
	or, and, deep := chain("+", letters), chain("*", letters), nots(40, tree("+", letters[:10]))
	made := [][2][]string{
		{nil, slices.Repeat([]string{and}, 12)}, {slices.Repeat([]string{or}, 12), nil}, {slices.Repeat([]string{or}, 6), slices.Repeat([]string{and}, 6)}, {letters[:6], slices.Repeat([]string{and}, 6)}, {slices.Repeat([]string{and}, 11), {"p"}}, {{"p"}, slices.Repeat([]string{or}, 11)},
		{slices.Repeat([]string{nots(59, "p")}, 6), slices.Repeat([]string{nots(59, "q")}, 6)}, {slices.Repeat([]string{nots(58, "p")}, 6), slices.Repeat([]string{nots(58, "q")}, 6)},
		{append(slices.Repeat([]string{or}, 10), "a0"), {"a0"}}, {append(slices.Repeat([]string{or}, 10), "(- (- p))"), {"a0", "(+ q p)"}}, {{or, or}, letters[:10]}, {{or}, letters[20:]},
	}
	for _, formulas := range [][]string{slices.Repeat([]string{or}, 11), slices.Repeat([]string{tree("+", letters)}, 11), slices.Repeat([]string{deep}, 11), slices.Repeat([]string{"(+ " + nots(28, "b") + " " + nots(28, "c") + ")"}, 11), slices.Repeat([]string{chain("+", slices.Repeat([]string{"(* b c)"}, 15))}, 11)} {
		for _, last := range []string{"p", "(+ p (- p))", "(* p (- p))", "(- p)"} {
			made = append(made, [2][]string{formulas, {last}}, [2][]string{{last}, duals(formulas)})
		}
	}
	var some []goal
	for _, q := range made {
		proof, rules := proofText(q[0], q[1])
		some = append(some, goal{q[0], q[1], proof, rules})
	}
	return some
})

// The time and the memory are far more than are needed, and far less than for all branches.
func TestProofsFarTooLarge(t *testing.T) {
	none := 0
	for i, g := range tooLarge() {
		var before, behind runtime.MemStats
		runtime.ReadMemStats(&before)
		begin := time.Now()
		got, ok := impl.Prove(g.left, g.right)
		if taken := time.Since(begin); taken > 2*time.Second {
			t.Errorf("Prove of sequent %d takes %v", i, taken)
		}
		runtime.ReadMemStats(&behind)
		if bytes := behind.TotalAlloc - before.TotalAlloc; bytes > 64<<20 {
			t.Errorf("Prove of sequent %d needs %d bytes", i, bytes)
		}
		if got != g.proof || ok != (g.proof != "") {
			t.Errorf("Prove of sequent %d: %q, %v", i, got, ok)
		}
		if !ok {
			none++
		}
		checkGoal(t, g)
	}
	if none < 40 {
		t.Errorf("just %d have no proof", none)
	}
}

// wideStatement is a proof of just so many atoms, an even number of them, of a on both sides.
func wideStatement(atoms int) string {
	return "(cut (inl " + tree("pair", slices.Repeat([]string{"x0"}, (atoms-6)/2)) + ") (tmu x1 (cut x0 k0)))"
}

func TestGreatestStatementsAsProofs(t *testing.T) {
	a := []string{"a"}
	for atoms, is := range map[int]bool{498: true, 500: true, 502: false} {
		s := wideStatement(atoms)
		checkProof(t, proof{s, a, a}, is)
		if got := len(atomText.FindAllString(s, -1)); got != atoms {
			t.Errorf("%q has %d atoms", s, got)
		}
	}
	checkProof(t, proof{"(cut " + tree("pair", slices.Repeat([]string{"x0"}, 248)) + " (tmu x1 (cut x0 k0)))", a, a}, false)
	for nest, is := range map[int]bool{199: true, 200: true, 201: false, 202: false} {
		s := around(nest/2, "(cut (mu k1 ", "(cut x0 k0)", ") k0)")
		if nest%2 == 0 {
			s = "(cut (not (tmu x1 " + around((nest-4)/2, "(cut (mu k1 ", "(cut x0 k0)", ") k0)") + ")) k1)"
		}
		if got := nesting(s); got != nest {
			t.Errorf("%q has %d parentheses within each other", s, got)
		}
		checkProof(t, proof{s, a, []string{"a", "(- a)"}}, is)
	}
}

// checkNoSequent tells that all fails for lists that are no sequent, whatever proof is given.
func checkNoSequent(t *testing.T, left []string, right []string) {
	t.Helper()
	if s, ok := impl.Prove(left, right); ok || s != "" {
		t.Errorf("Prove of %q and %q: %q, %v", left, right, s, ok)
	}
	if got := impl.ProofRules(left, right); got != -1 {
		t.Errorf("ProofRules of %q and %q: %d", left, right, got)
	}
	for _, s := range []string{"(cut x0 k0)", "(cut x0 k1)", "(cut x1 k0)", "(cut x1 k1)", ""} {
		checkProof(t, proof{s, left, right}, false)
	}
}

func TestTextsThatAreNoFormulasInSequents(t *testing.T) {
	for _, f := range append(wrongFormulas(), "x0123", "(cut x0 k0)", "(mu k0 (cut x0 k0))") {
		for _, q := range [][2][]string{{{f}, nil}, {nil, {f}}, {{f}, {f}}, {{f}, {"a"}}, {{"a"}, {f}}, {{"a", f}, {"a"}}, {{f, "a"}, {"a"}}, {{"a"}, {"a", f}}, {{"a"}, {f, "a"}}, {{"a"}, {"(* a b)", "a", "c", f}}, {{"(+ a b)", "c", f, "a"}, {"a", "b"}}} {
			checkNoSequent(t, q[0], q[1])
		}
		if s, ok := impl.ProveTerm(f); ok || s != "" {
			t.Errorf("ProveTerm of %q: %q", f, s)
		}
		if impl.ProveBoth(f, f) || impl.ProveBoth(f, "a") || impl.ProveBoth("a", f) || impl.ProveBoth("(+ a (- a))", f) || impl.ProveBoth("(* a (- a))", f) {
			t.Errorf("ProveBoth of %q holds", f)
		}
	}
}

func TestTextsThatAreNoStatementsAsProofs(t *testing.T) {
	for _, q := range [][2][]string{{{"a"}, {"a"}}, {{"a", "b"}, {"a", "(- a)"}}, {nil, nil}, {{"(* a b)"}, {"(* a b)"}}, {{"a"}, nil}, {nil, {"a"}}} {
		for _, s := range wrongPrograms() {
			checkProof(t, proof{s, q[0], q[1]}, false)
		}
		for _, s := range []string{"x0", "k0", "(mu k1 (cut x0 k0))", "(mu k0 (cut x0 k0))", "(tmu x1 (cut x0 k0))", "(tmu x0 (cut x0 k0))", "(inl x0)", "(not k0)", "(pair x0 x0)", "(fst k0)", "(neg x0)", "(case k0 k0)", "(cut x0)", "(cut k0 x0)", "cut", "a", "(* a a)", "(cut x0 k0) ", " (cut x0 k0)", "(cut x0 k0)(cut x0 k0)", "((cut x0 k0))", "(cut  x0 k0)"} {
			checkProof(t, proof{s, q[0], q[1]}, false)
		}
	}
}

// branching are those of the goals with more than one branch, and some of those without a proof.
func branching() []goal {
	var some []goal
	for i, g := range goals() {
		if strings.Count(g.proof, "pair")+strings.Count(g.proof, "case") > 1 && i%4 == 0 || g.proof == "" && i%16 == 0 {
			some = append(some, g)
		}
	}
	for _, c := range limitCases {
		proof, rules := proofText(c.left, c.right)
		some = append(some, goal{c.left, c.right, proof, rules})
	}
	return append(some, tooLarge()...)
}

// The answers do not depend on which goroutine is ready first.
func TestProofsAreTheSameEachTime(t *testing.T) {
	some := branching()
	if len(some) < 300 {
		t.Errorf("just %d sequents", len(some))
	}
	for _, processors := range []int{1, 2, 3, 16} {
		before := runtime.GOMAXPROCS(processors)
		for range 3 {
			for _, g := range some {
				checkGoal(t, g)
			}
		}
		runtime.GOMAXPROCS(before)
	}
}

// Nor do they if others are asked at the same time.
func TestProofsAtTheSameTime(t *testing.T) {
	some := branching()
	var all sync.WaitGroup
	for i := range 12 {
		all.Go(func() {
			for j := range some {
				checkGoal(t, some[(j+i*17)%len(some)])
			}
		})
	}
	all.Wait()
}

// A branch that is long is ready far later than the other one, which still comes behind it in the proof, or ahead of it.
func TestLongAndShortBranches(t *testing.T) {
	long := nots(40, "a")
	for _, q := range [][2][]string{
		{{"a"}, {"(* " + long + " a)"}}, {{"a"}, {"(* a " + long + ")"}}, {{"(+ " + long + " a)"}, {"a"}}, {{"(+ a " + long + ")"}, {"a"}}, {{"a"}, {"(* (* " + long + " a) a)"}}, {{"a"}, {"(* a (* a " + long + "))"}},
		// One of them has no proof: the long one, the short one, or both.
		{{"a"}, {"(* " + long + " b)"}}, {{"a"}, {"(* b " + long + ")"}}, {{"b"}, {"(* " + long + " b)"}}, {{"b"}, {"(* b " + long + ")"}}, {{"(+ " + long + " b)"}, {"a"}}, {{"(+ b " + long + ")"}, {"a"}}, {{"(+ " + long + " b)"}, {"b"}}, {{"(+ b " + long + ")"}, {"b"}}, {{"(+ b " + long + ")"}, {"c"}}, {{"c"}, {"(* " + long + " b)"}},
	} {
		proof, rules := proofText(q[0], q[1])
		if (proof != "") != isValid(q[0], q[1]) {
			t.Errorf("the helper tells of %q and %q %q", q[0], q[1], proof)
		}
		for range 20 {
			checkGoal(t, goal{q[0], q[1], proof, rules})
		}
	}
}

// All goroutines end with the answer: a bubble fails if one of them still waits, and none is left running.
func TestNoGoroutineIsLeft(t *testing.T) {
	some := append(branching(), goals()[:500]...)
	before := runtime.NumGoroutine()
	synctest.Test(t, func(t *testing.T) {
		for _, g := range some {
			impl.Prove(g.left, g.right)
			impl.ProofRules(g.left, g.right)
			if len(g.left) == 1 && len(g.right) == 1 {
				impl.ProveBoth(g.left[0], g.right[0])
				impl.ProveTerm(g.right[0])
			}
		}
	})
	for _, g := range some {
		impl.Prove(g.left, g.right)
	}
	// What has given its answer may need a moment to end.
	for range 1000 {
		if runtime.NumGoroutine() <= before {
			return
		}
		time.Sleep(time.Millisecond)
	}
	t.Errorf("there are %d goroutines, and before %d", runtime.NumGoroutine(), before)
}

func TestProofsAndListsAreApart(t *testing.T) {
	left, right := []string{"(- (- (* a b)))", "c", "spare", "spare"}, []string{"(+ (* a b) c)", "(- c)", "spare"}
	for range 3 {
		s, ok := impl.Prove(left[:2], right[:2])
		if !ok {
			t.Fatalf("Prove of %q and %q fails", left[:2], right[:2])
		}
		impl.ProofRules(left[:2], right[:2])
		if !impl.ProofIs(s, left[:2], right[:2]) {
			t.Errorf("ProofIs of %q does not hold", s)
		}
		_, onLeft, onRight, ok := impl.ProofDual(s, left[:2], right[:2])
		if !ok || !slices.Equal(onLeft, []string{"(* (+ a b) c)", "(- c)"}) || !slices.Equal(onRight, []string{"(- (- (+ a b)))", "c"}) {
			t.Fatalf("ProofDual of %q: %q, %q, %v", s, onLeft, onRight, ok)
		}
		overwrite(onLeft)
		if !slices.Equal(onRight, []string{"(- (- (+ a b)))", "c"}) {
			t.Errorf("both lists of a dual share memory")
		}
		overwrite(onRight)
	}
	if !slices.Equal(left, []string{"(- (- (* a b)))", "c", "spare", "spare"}) || !slices.Equal(right, []string{"(+ (* a b) c)", "(- c)", "spare"}) {
		t.Errorf("the lists became %q and %q", left, right)
	}
	// One list on both sides.
	same := []string{"a", "b", "spare"}
	if s, ok := impl.Prove(same[:2], same[:2]); !ok || s != "(cut x0 k0)" {
		t.Errorf("Prove of the same list: %q", s)
	}
	_, onLeft, onRight, _ := impl.ProofDual("(cut x0 k0)", same[:2], same[:2])
	overwrite(onLeft)
	if !slices.Equal(same, []string{"a", "b", "spare"}) || !slices.Equal(onRight, []string{"a", "b"}) {
		t.Errorf("the lists became %q and %q", same, onRight)
	}
}
