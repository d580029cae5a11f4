package tests

import (
	"slices"
	"strings"
	"testing"

	"loop.example/classicalcontrol/impl"
)

func TestPromise55(t *testing.T) {
	done := 0
	for _, g := range goals() {
		s, ok := impl.Prove(g.left, g.right)
		if !ok {
			continue
		}
		done++
		if !impl.ProofIs(s, g.left, g.right) || canonOf(t, s) != s || impl.ProgramKind(s) != "statement" {
			t.Errorf("Prove of %q and %q: %q", g.left, g.right, s)
		}
		if more := others(freeOf(t, s), proofNames(g.left, g.right)); len(more) > 0 {
			t.Errorf("%q are free in %q, the proof of %q and %q", more, s, g.left, g.right)
		}
		if len(formulaLetters(slices.Concat(g.left, g.right)...)) <= 10 && (!impl.SequentValid(g.left, g.right) || !isValid(g.left, g.right)) {
			t.Errorf("%q and %q have the proof %q, but are not valid", g.left, g.right, s)
		}
	}
	if done < 1500 {
		t.Errorf("just %d proofs", done)
	}
}

// ofTenAtoms are sequents of formulas with together at most 10 atoms: all of the smallest ones, and many others.
func ofTenAtoms() [][2][]string {
	made := smallSequents(5, []string{"a", "b"})
	m := &maker{state: 85}
	for len(made) < 9000 {
		q := [2][]string{m.formulas(m.below(4), 9, fewNames[:1+m.below(3)]), m.formulas(m.below(4), 9, fewNames[:1+m.below(3)])}
		if m.below(2) == 0 {
			q = m.validSequent(3, fewNames[:2])
		}
		atoms := atomText.FindAllString(strings.Join(slices.Concat(q[0], q[1]), " "), -1)
		if len(atoms) > 5 && len(atoms) <= 10 {
			made = append(made, q)
		}
	}
	return made
}

func TestPromise56(t *testing.T) {
	counts := map[bool]int{}
	for _, q := range ofTenAtoms() {
		valid := impl.SequentValid(q[0], q[1])
		if got := proves(q[0], q[1]); got != valid || valid != isValid(q[0], q[1]) {
			t.Errorf("Prove of %q and %q: %v, but SequentValid: %v", q[0], q[1], got, valid)
		}
		counts[valid]++
	}
	if counts[true] < 2000 || counts[false] < 2000 {
		t.Errorf("just %d are valid, and %d are not", counts[true], counts[false])
	}
}

// somethingValid are formulas of which many are valid.
func somethingValid() []string {
	some := []string{"(+ a (- a))", alone(0, 23), alone(1, 22), alone(2, 22), "(+ (- " + nots(28, "a") + ") " + nots(28, "a") + ")", "(- (* a (- a)))", "(- (- (+ a (- a))))", "a", "(* a b)"}
	m := &maker{state: 86}
	for range 800 {
		q := m.validSequent(4, fewNames)
		if len(q[0]) > 0 {
			some = append(some, "(+ (- "+chain("*", q[0])+") "+chain("+", append(slices.Clone(q[1]), "b"))+")")
		}
		if len(q[1]) > 0 && len(q[0]) > 0 {
			some = append(some, "(- (* "+chain("*", q[0])+" (- "+chain("+", q[1])+")))")
		}
		some = append(some, m.formula(1+m.below(9), fewNames))
	}
	return slices.DeleteFunc(some, func(f string) bool { return !isFormula(f) })
}

func TestPromise57(t *testing.T) {
	done, general := 0, 0
	for _, f := range somethingValid() {
		s, ok := impl.ProveTerm(f)
		if ok != proves(nil, []string{f}) {
			t.Errorf("ProveTerm of %q: %v", f, ok)
		}
		if !ok {
			continue
		}
		done++
		y, okType := impl.TypeOf(s)
		if impl.ProgramKind(s) != "term" || len(freeOf(t, s)) > 0 || canonOf(t, s) != s || !okType || len(y.Names) > 0 {
			t.Errorf("ProveTerm of %q: %q, of %q", f, s, y)
		}
		if !impl.TypeInstance(y, typing(f)) || !impl.TypeHas(s, nil, nil, f) {
			t.Errorf("ProveTerm of %q: %q, of which the type is %q", f, s, y)
		}
		if y.Type != f {
			general++
		}
	}
	if done < 600 || general < 300 {
		t.Errorf("just %d terms, %d of other types", done, general)
	}
}

func TestPromise58(t *testing.T) {
	steps := map[string]int{}
	for _, p := range someProofs() {
		if !impl.ProofIs(p.s, p.left, p.right) {
			t.Errorf("ProofIs of %q with %q and %q does not hold", p.s, p.left, p.right)
			continue
		}
		if letters, ok := impl.SequentFails(p.left, p.right); ok {
			t.Errorf("%q is a proof of %q and %q, which do not hold in %q", p.s, p.left, p.right, letters)
		}
		for kind := range kinds {
			at := p.s
			for range 30 {
				next, ok := impl.StepOf(kind, at)
				if !ok {
					break
				}
				steps[kind]++
				if !impl.ProofIs(next, p.left, p.right) {
					t.Errorf("%q behind %q by %s is no proof of %q and %q", next, at, kind, p.left, p.right)
				}
				at = next
			}
		}
	}
	if steps["value"] < 1000 || steps["name"] < 1000 {
		t.Errorf("just %v steps", steps)
	}
}

func TestPromise59(t *testing.T) {
	done, differ := 0, 0
	for _, p := range someProofs() {
		s, left, right, ok := impl.ProofDual(p.s, p.left, p.right)
		if !ok || !impl.ProofIs(s, left, right) || canonOf(t, s) != s {
			t.Errorf("ProofDual of %q with %q and %q: %q, %q, %q, %v", p.s, p.left, p.right, s, left, right, ok)
			continue
		}
		done++
		again, leftAgain, rightAgain, ok := impl.ProofDual(s, left, right)
		if !ok || !impl.ProgramAlike(again, p.s) || again != canonOf(t, p.s) || !slices.Equal(leftAgain, p.left) || !slices.Equal(rightAgain, p.right) {
			t.Errorf("ProofDual twice of %q with %q and %q: %q, %q, %q, %v", p.s, p.left, p.right, again, leftAgain, rightAgain, ok)
		}
		if again != p.s {
			differ++
		}
	}
	if done < 700 || differ == 0 {
		t.Errorf("just %d proofs, %d of them not canonical", done, differ)
	}
}

func TestPromise60(t *testing.T) {
	some, none := 0, 0
	for _, g := range append(goals(), branching()...) {
		s, ok := impl.Prove(g.left, g.right)
		rules := impl.ProofRules(g.left, g.right)
		if (rules != -1) != ok || rules < -1 || rules == 0 {
			t.Errorf("ProofRules of %q and %q: %d, and Prove %q", g.left, g.right, rules, s)
		}
		if !ok {
			none++
			continue
		}
		some++
		// Each rule has one cut, and those that take both formulas out of one have two.
		twice := strings.Count(s, "(fst (tmu") + strings.Count(s, "(inl (mu")
		if cuts := strings.Count(s, "(cut "); rules > cuts || rules != cuts-twice {
			t.Errorf("ProofRules of %q and %q: %d, and %d cuts in %q", g.left, g.right, rules, cuts, s)
		}
	}
	if some < 1500 || none < 500 {
		t.Errorf("just %d with a proof, and %d without", some, none)
	}
}

func TestPromise61(t *testing.T) {
	pairs := [][2]string{{"(- (- a))", "a"}, {"a", "b"}, {"(+ a (- a))", "(+ b (- b))"}}
	for _, shape := range validShapes {
		if !strings.Contains(shape[0]+shape[1], ",") && shape[0] != "" && shape[1] != "" {
			for _, by := range []*strings.Replacer{strings.NewReplacer("A", "a", "B", "b", "C", "c1"), strings.NewReplacer("A", "(- b)", "B", "(* a c1)", "C", "a"), strings.NewReplacer("A", "a", "B", "a", "C", "(+ b a)")} {
				pairs = append(pairs, [2]string{by.Replace(shape[0]), by.Replace(shape[1])})
			}
		}
	}
	for _, f := range someFormulas() {
		push, ok := impl.FormulaPush(f)
		if ok {
			pairs = append(pairs, [2]string{f, push})
		}
	}
	m := &maker{state: 87}
	for range 600 {
		pairs = append(pairs, [2]string{m.formula(1+m.below(5), fewNames[:2]), m.formula(1+m.below(5), fewNames[:2])})
	}
	holds, fails := 0, 0
	for _, c := range pairs {
		a, b := c[0], c[1]
		if impl.ProveBoth(b, a) != impl.ProveBoth(a, b) {
			t.Errorf("ProveBoth of %q and %q: %v, but not both exchanged", a, b, impl.ProveBoth(a, b))
		}
		if !impl.ProveBoth(a, b) {
			fails++
			continue
		}
		holds++
		both := duals([]string{a, b})
		for range 10 {
			chosen := m.assignment(formulaLetters(a, b))
			if impl.FormulaHolds(a, chosen) != impl.FormulaHolds(b, chosen) || impl.FormulaHolds(both[0], chosen) != impl.FormulaHolds(both[1], chosen) {
				t.Errorf("%q and %q, or their duals, are not the same in %q", a, b, chosen)
			}
		}
	}
	if holds < 200 || fails < 300 {
		t.Errorf("just %d hold, and %d do not", holds, fails)
	}
}

func TestPromise62(t *testing.T) {
	done, full := 0, 0
	for _, p := range someProofs() {
		for _, more := range []string{"a", "(- a)", "(* b (- b))", nots(59, "c")} {
			right := append(slices.Clone(p.right), more)
			if len(p.left)+len(p.right) > 11 {
				full++
				if impl.ProofIs(p.s, p.left, right) {
					t.Errorf("%q is a proof of 13 formulas", p.s)
				}
				continue
			}
			done++
			if !impl.ProofIs(p.s, p.left, right) {
				t.Errorf("%q is a proof of %q and %q, but not with %q", p.s, p.left, p.right, more)
			}
		}
	}
	if done < 2500 || full == 0 {
		t.Errorf("just %d with one formula more, and %d of 12", done, full)
	}
}
