package impl

import (
	"reflect"
	"testing"
)

// Steps go on with what is made, and leave what they are made of as it is.
func TestStepsKeepWhatTheyAreMadeOf(t *testing.T) {
	for _, s := range []string{
		"(cut (mu k (cut (not k) k)) (case (neg x) (fst l)))",
		"(cut (pair (mu k (cut x k)) (mu k (cut y k))) (tmu x (cut (pair x x) (fst k))))",
		"(cut (inl (mu k (cut x0 (fst k)))) (case (neg x0) l))",
		"(cut (pair (inl x) (not (tmu y (cut y k)))) (tmu z (cut (pair z z) (fst (case k l)))))",
		"(cut (inr (pair x y)) (case k (tmu y (cut x (fst (tmu z (cut y k)))))))",
		"(cut (not (case k l)) (neg (mu k (cut (inl x) k))))",
	} {
		for _, kind := range []string{byValue, byName} {
			p := mustRead(t, s)
			for range 2 {
				next, ok := stepped(kind, p)
				if p.text() != s || !reflect.DeepEqual(p, mustRead(t, s)) {
					t.Fatalf("a step of %q makes %q of it", s, p.text())
				}
				if ok && !reflect.DeepEqual(next, mustRead(t, next.text())) {
					t.Errorf("a step of %q makes %#v", s, next)
				}
				reduced(kind, p, StepsMax)
			}
		}
	}
}

// Both kinds have the same rules: those by name are found on the dual, and made back.
func TestMachinesAreDual(t *testing.T) {
	for _, s := range []string{"(cut (pair x y) (snd k))", "(cut (inr x) (case k l))", "(cut (not k) (neg x))", "(cut (inl (mu k (cut x k))) l)", "(cut x (tmu y (cut y k)))"} {
		p := mustRead(t, s)
		next, ok := machine[variable, covariable]{}.step(p)
		ofDual, okDual := machine[covariable, variable]{}.step(p.dual())
		if !ok || !okDual || canonical(next.dual()).text() != ofDual.text() {
			t.Errorf("the step of %q makes %q, that of its dual %q", s, next.text(), ofDual.text())
		}
	}
}
