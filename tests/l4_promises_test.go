package tests

import (
	"slices"
	"testing"

	"loop.example/classicalcontrol/impl"
)

// someTerms are terms of which many are values, some as great as there are.
func someTerms() []string {
	var some []string
	for s := range values {
		some = append(some, s)
	}
	slices.Sort(some)
	m := &maker{state: 43}
	for range 800 {
		some = append(some, m.program("term", 3))
	}
	wide := tree("pair", slices.Repeat([]string{"x"}, 249))
	return append(some, wide, "(inl "+wide+")", "(inl (inl "+wide+"))", tree("pair", slices.Repeat([]string{"y"}, 250)), around(199, "(inr ", "x", ")"), around(200, "(inl ", "x", ")"))
}

func TestPromise26(t *testing.T) {
	holds, against := 0, 0
	for _, s := range append(someTerms(), somePrograms()...) {
		dual := dualOf(t, s)
		if impl.ValueIs(s) != impl.CovalueIs(dual) {
			t.Errorf("ValueIs of %q is %v, but not CovalueIs of its dual", s, impl.ValueIs(s))
		}
		if !impl.ValueIs(s) {
			continue
		}
		holds++
		for _, k := range []string{"k", "l0", "m999"} {
			cut := "(cut " + s + " " + k + ")"
			if impl.ProgramKind(cut) != "statement" {
				continue
			}
			against++
			if !impl.StuckIs("value", cut) {
				t.Errorf("%q is not stuck by value", cut)
			}
		}
	}
	if holds < 200 || against == 3*holds {
		t.Errorf("just %d values, %d against covariables", holds, against)
	}
}

func TestPromise27(t *testing.T) {
	holds, against := 0, 0
	for _, term := range append(someTerms(), somePrograms()...) {
		s := dualOf(t, term)
		dual := dualOf(t, s)
		if impl.CovalueIs(s) != impl.ValueIs(dual) {
			t.Errorf("CovalueIs of %q is %v, but not ValueIs of its dual", s, impl.CovalueIs(s))
		}
		if !impl.CovalueIs(s) {
			continue
		}
		holds++
		for _, x := range []string{"x", "y0", "z999"} {
			cut := "(cut " + x + " " + s + ")"
			if impl.ProgramKind(cut) != "statement" {
				continue
			}
			against++
			if !impl.StuckIs("name", cut) {
				t.Errorf("%q is not stuck by name", cut)
			}
		}
	}
	if holds < 200 || against == 3*holds {
		t.Errorf("just %d covalues, %d against variables", holds, against)
	}
}

func TestPromise28(t *testing.T) {
	steps, fails := 0, 0
	for _, s := range reducible() {
		for kind, other := range kinds {
			next, ok := impl.StepOf(kind, s)
			ofDual, okDual := impl.StepOf(other, dualOf(t, s))
			if ok != okDual {
				t.Errorf("StepOf %s of %q: %v, and of its dual %v", kind, s, ok, okDual)
			}
			if !ok {
				fails++
				continue
			}
			steps++
			if canonOf(t, next) != next || impl.ProgramKind(next) != "statement" {
				t.Errorf("%q behind %q is no canonical statement", next, s)
			}
			free := freeOf(t, s)
			for _, n := range freeOf(t, next) {
				if !slices.Contains(free, n) {
					t.Errorf("%q is new in %q behind %q", n, next, s)
				}
			}
			if dual := dualOf(t, next); !impl.ProgramAlike(dual, ofDual) || canonOf(t, dual) != ofDual {
				t.Errorf("StepOf %s of the dual of %q: %q, not the dual of %q", other, s, ofDual, next)
			}
		}
	}
	if steps < 500 || fails < 200 {
		t.Errorf("just %d steps, and %d that fail", steps, fails)
	}
}

func TestPromise29(t *testing.T) {
	m := &maker{state: 44}
	var some []string
	for _, p := range append(m.typedStatements(500, 4), m.typedStatements(100, 6)...) {
		some = append(some, p.text)
	}
	steps, fewer := 0, 0
	for _, s := range append(some, reducible()...) {
		y, ok := impl.TypeOf(s)
		if !ok {
			continue
		}
		for kind := range kinds {
			for at := s; ; {
				next, ok := impl.StepOf(kind, at)
				if !ok {
					break
				}
				steps++
				if !impl.TypeHas(next, y.Names, y.Types, "") {
					t.Errorf("%q behind %q has not the types %q", next, at, y)
				}
				if len(freeOf(t, next)) < len(y.Names) {
					fewer++
				}
				at = next
			}
		}
	}
	if steps < 1000 || fewer < 300 {
		t.Errorf("just %d steps, %d of them with fewer names", steps, fewer)
	}
}

func TestPromise30(t *testing.T) {
	more, fewer := 0, 0
	for _, s := range reducible() {
		for kind := range kinds {
			for _, n := range []int{0, 1, 2, 3, 7, impl.StepsMax - 1, impl.StepsMax} {
				behind, steps, ok := impl.StepMany(kind, s, n)
				if !ok || steps > n || steps < 0 {
					t.Fatalf("StepMany %s of %q with %d: %q, %d, %v", kind, s, n, behind, steps, ok)
				}
				next, okNext := impl.StepOf(kind, behind)
				again, stepsAgain, okAgain := impl.StepMany(kind, s, n+1)
				if okAgain != (n+1 <= impl.StepsMax) {
					t.Errorf("StepMany %s of %q with %d: %v", kind, s, n+1, okAgain)
				}
				if okNext && okAgain {
					more++
					if again != next || stepsAgain != steps+1 {
						t.Errorf("StepMany %s of %q with %d: %q, %d, and StepOf of that one before %q", kind, s, n+1, again, stepsAgain, next)
					}
				}
				if steps < n {
					fewer++
					if okNext {
						t.Errorf("StepMany %s of %q with %d: %d, but StepOf of %q succeeds", kind, s, n, steps, behind)
					}
				}
			}
		}
	}
	if more < 1000 || fewer < 1000 {
		t.Errorf("just %d with one step more, and %d with fewer", more, fewer)
	}
}

func TestPromise31(t *testing.T) {
	ends, fails, far := 0, 0, 0
	for _, s := range reducible() {
		for kind, other := range kinds {
			end, steps, ok := impl.RunOf(kind, s)
			ofDual, stepsOfDual, okDual := impl.RunOf(other, dualOf(t, s))
			if ok != okDual || steps != stepsOfDual {
				t.Errorf("RunOf %s of %q: %d, %v, and of its dual %d, %v", kind, s, steps, ok, stepsOfDual, okDual)
			}
			if !ok {
				fails++
				continue
			}
			ends++
			if steps > 3 {
				far++
			}
			if !impl.StuckIs(kind, end) || canonOf(t, end) != end {
				t.Errorf("%q, the end of %q, is not stuck by %s or not canonical", end, s, kind)
			}
			if again, none, ok := impl.RunOf(kind, end); !ok || none != 0 || again != end {
				t.Errorf("RunOf %s of %q: %q, %d, %v", kind, end, again, none, ok)
			}
			if dual := dualOf(t, end); !impl.ProgramAlike(dual, ofDual) || canonOf(t, dual) != ofDual {
				t.Errorf("RunOf %s of the dual of %q: %q, not the dual of %q", other, s, ofDual, end)
			}
			if behind, n, ok := impl.StepMany(kind, s, impl.StepsMax); !ok || n != steps || canonOf(t, behind) != end {
				t.Errorf("StepMany %s of %q: %q, %d, %v, and RunOf %q, %d", kind, s, behind, n, ok, end, steps)
			}
		}
	}
	if ends < 500 || fails < 10 || far < 100 {
		t.Errorf("just %d ends, %d of them far, and %d that fail", ends, far, fails)
	}
}

func TestPromise32(t *testing.T) {
	differ, fails := 0, 0
	for _, s := range reducible() {
		value, name, ok := impl.StepBoth(s)
		valueOfDual, nameOfDual, okDual := impl.StepBoth(dualOf(t, s))
		if ok != okDual || value != nameOfDual || name != valueOfDual {
			t.Errorf("StepBoth of %q: %d, %d, %v, and of its dual %d, %d, %v", s, value, name, ok, valueOfDual, nameOfDual, okDual)
		}
		if !ok {
			fails++
			continue
		}
		_, byValue, okValue := impl.RunOf("value", s)
		_, byName, okName := impl.RunOf("name", s)
		if !okValue || !okName || value != byValue || name != byName {
			t.Errorf("StepBoth of %q: %d, %d, and RunOf %d, %v, %d, %v", s, value, name, byValue, okValue, byName, okName)
		}
		if value != name {
			differ++
		}
	}
	if differ < 100 || fails < 5 {
		t.Errorf("just %d differ, and %d fail", differ, fails)
	}
}
