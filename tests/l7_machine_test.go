package tests

import (
	"slices"
	"strconv"
	"strings"
	"testing"

	"loop.example/classicalcontrol/impl"
)

// A machineCase is a source term with how the machine ends, and whether the statement ends so, too.
type machineCase struct {
	s, end, shape string
	moves         int
	agrees        bool
}

// machineCases are moves of each word, and values of each kind.
var machineCases = []machineCase{
	{"x", "", "x", 1, true},
	{"z999", "", "z999", 1, true},
	{"(lam x x)", "", "fun", 1, true},
	{"(lam x (app x (left y)))", "", "fun", 1, true},
	{"(lam x (throw k x))", "", "fun", 1, true},
	{"(both x y)", "", "(both x y)", 5, true},
	{"(both x x)", "", "(both x x)", 5, true},
	{"(both x (lam y y))", "", "(both x fun)", 5, true},
	{"(both (lam y y) x)", "", "(both fun x)", 5, true},
	{"(both (both x y) (both z x0))", "", "(both (both x y) (both z x0))", 13, true},
	{"(left (both x y))", "", "x", 7, true},
	{"(right (both x y))", "", "y", 7, true},
	{"(left (both (lam x x) y))", "", "fun", 7, true},
	{"(right (both x (both y z)))", "", "(both y z)", 11, true},
	{"(left (right (both x (both y z))))", "", "y", 13, true},
	{"(app (lam x x) y)", "", "y", 6, true},
	{"(app (lam x y) z)", "", "y", 6, true},
	{"(app (lam x (lam y x)) z)", "", "fun", 6, true},
	{"(app (lam x (both x x)) y)", "", "(both y y)", 10, true},
	{"(app (lam x (both x x)) (lam x x))", "", "(both fun fun)", 10, true},
	{"(app (app (lam x (lam y x)) y) z)", "", "y", 11, true},
	{"(app (app (lam x (lam y y)) y) z)", "", "z", 11, true},
	{"(app (lam x (app x x)) (lam y y))", "", "fun", 11, true},
	{"(app (left (both (lam x x) y)) z)", "", "z", 12, true},
	{"(app (lam x (right x)) (both y z))", "", "z", 12, true},
	{"(catch k x)", "", "x", 2, true},
	{"(catch m999 (lam x x))", "", "fun", 2, true},
	{"(catch k (both x y))", "", "(both x y)", 6, true},
	{"(throw k x)", "k", "x", 2, true},
	{"(throw l000 (lam x x))", "l000", "fun", 2, true},
	{"(throw k (both x (lam x x)))", "k", "(both x fun)", 6, true},
}

// stuckMachines end at a frame. With a variable the statement is stuck in the same way, with other values it has a term that is none.
var stuckMachines = []machineCase{
	{"(app x y)", "stuck", "x", 2, true},
	{"(left x)", "stuck", "x", 2, true},
	{"(right y7)", "stuck", "y7", 2, true},
	{"(app x (app y z))", "stuck", "x", 2, true},
	{"(app x (throw k y))", "stuck", "x", 2, true},
	{"(app (app x y) z)", "stuck", "x", 3, true},
	{"(both (app x y) z)", "stuck", "x", 3, true},
	{"(both x (app y z))", "stuck", "y", 5, true},
	{"(left (right x))", "stuck", "x", 3, true},
	{"(left (app x y))", "stuck", "x", 3, true},
	{"(app (left x) y)", "stuck", "x", 3, true},
	{"(catch k (left x))", "stuck", "x", 3, true},
	{"(catch k (app x (throw k y)))", "stuck", "x", 3, true},
	{"(throw k (left x))", "stuck", "x", 3, true},
	{"(throw k (app x y))", "stuck", "x", 3, true},
	{"(left (left (both x y)))", "stuck", "x", 8, true},
	{"(app (right (both x y)) z)", "stuck", "y", 8, true},
	{"(left (app (lam x x) y))", "stuck", "y", 7, true},
	{"(app (app (lam x x) y) z)", "stuck", "y", 7, true},
	{"(app (lam x (app x y)) z)", "stuck", "z", 7, true},
	{"(app (lam x (right x)) y)", "stuck", "y", 7, true},
	{"(app (both x y) z)", "stuck", "(both x y)", 6, false},
	{"(app (both x (lam y y)) z)", "stuck", "(both x fun)", 6, false},
	{"(app (both x y) (throw k z))", "stuck", "(both x y)", 6, false},
	{"(both (app (both x y) z) x)", "stuck", "(both x y)", 7, false},
	{"(left (lam x x))", "stuck", "fun", 2, false},
	{"(right (lam x (both x x)))", "stuck", "fun", 2, false},
	{"(left (throw k (right (lam x x))))", "stuck", "fun", 4, false},
	{"(app (lam x (left x)) (lam y y))", "stuck", "fun", 7, false},
	{"(app (lam x (app x x)) (both y z))", "stuck", "(both y z)", 11, false},
}

// throws go to what is around, and to what is not.
var throws = []machineCase{
	// Directly around.
	{"(catch k (throw k x))", "", "x", 3, true},
	{"(left (catch k (throw k (both x y))))", "", "x", 9, true},
	// To the outer one of two, and to the inner one.
	{"(catch k (left (catch l (throw k x))))", "", "x", 5, true},
	{"(catch k (left (catch l (throw l (both x y)))))", "", "x", 10, true},
	{"(catch k (both x (catch l (throw k y))))", "", "y", 7, true},
	{"(catch k (both x (catch l (throw l y))))", "", "(both x y)", 8, true},
	// The name is caught again within: the inner one counts as long as one is in it.
	{"(catch k (left (catch k (throw k (both x y)))))", "", "x", 10, true},
	{"(catch k (both x (catch k (throw k y))))", "", "(both x y)", 8, true},
	{"(left (catch k (catch k (throw k (both x y)))))", "", "x", 10, true},
	{"(catch k (both (catch k (throw k x)) (throw k y)))", "", "y", 8, true},
	{"(catch k (both (throw k x) (catch k (throw k y))))", "", "x", 4, true},
	// Out of a function that is applied within the catch, outside of it, and after it has ended.
	{"(catch k (left (app (lam x (throw k x)) y)))", "", "y", 9, true},
	{"(catch k (app (lam x (left (throw k x))) (lam y y)))", "", "fun", 9, true},
	{"(app (catch k (lam x (throw k (lam y x)))) z)", "", "z", 12, true},
	{"(app (catch k (lam x (throw k (lam y (both x y))))) z)", "", "(both z z)", 16, true},
	{"(app (lam z (app z y)) (catch k (lam x (throw k (lam y x)))))", "", "y", 20, true},
	{"(app (lam z (left (app z (both x y)))) (catch k (lam x (throw k (lam y x)))))", "", "x", 31, true},
	// Out of both parts of app and both, and of the parts of pairs.
	{"(catch k (app (throw k x) y))", "", "x", 4, true},
	{"(catch k (app (lam x x) (throw k y)))", "", "y", 6, true},
	{"(catch k (app (throw k x) (throw k y)))", "", "x", 4, true},
	{"(catch k (both (throw k x) y))", "", "x", 4, true},
	{"(catch k (both x (throw k y)))", "", "y", 6, true},
	{"(catch k (both (throw k x) (throw k y)))", "", "x", 4, true},
	{"(catch k (left (throw k x)))", "", "x", 4, true},
	{"(catch k (right (throw k x)))", "", "x", 4, true},
	{"(app (throw k x) y)", "k", "x", 3, true},
	{"(app (lam x x) (throw k y))", "k", "y", 5, true},
	{"(both (throw k x) y)", "k", "x", 3, true},
	{"(both x (throw k y))", "k", "y", 5, true},
	// Within its own throw.
	{"(catch k (throw k (throw k x)))", "", "x", 4, true},
	{"(throw k (throw k x))", "k", "x", 3, true},
	{"(throw k (throw l x))", "l", "x", 3, true},
	{"(catch k (throw k (left (throw k x))))", "", "x", 5, true},
	{"(catch k (throw k (catch k x)))", "", "x", 4, true},
	{"(throw k (catch k (throw k x)))", "k", "x", 4, true},
	{"(throw k (catch l (throw l x)))", "k", "x", 4, true},
	{"(throw k (left (catch l (throw l (both x y)))))", "k", "x", 10, true},
	{"(left (catch k (throw k (both (throw k (both x y)) z))))", "", "x", 11, true},
	// To what nothing catches, also where the name is caught elsewhere.
	{"(catch k (throw l x))", "l", "x", 3, true},
	{"(left (throw m2 (both x y)))", "m2", "(both x y)", 7, true},
	{"(both (catch k x) (throw k y))", "k", "y", 6, true},
	{"(app (catch k (lam x (throw l x))) y)", "l", "y", 8, true},
	{"(throw k (left (catch l (throw k (both x y)))))", "k", "(both x y)", 9, true},
	{"(catch k0 (throw k00 x))", "k00", "x", 3, true},
}

// environments tell of equal names which one counts.
var environments = []machineCase{
	// The last one of equal names, and the one before where this has ended.
	{"(app (lam x (app (lam x x) y)) z)", "", "y", 11, true},
	{"(app (lam x (both (app (lam x x) y) x)) z)", "", "(both y z)", 15, true},
	{"(app (app (app (lam x (lam x (lam x x))) x0) x1) x2)", "", "x2", 16, true},
	{"(app (lam x0 x00) y)", "", "x00", 6, true},
	// A function has the environment in which it was made.
	{"(app (lam z (app (lam y (app z x1)) x1)) (app (lam y (lam x y)) x0))", "", "x0", 21, true},
	{"(both (app (lam x x) y) x)", "", "(both y x)", 10, true},
	{"(catch k (left (app (lam z (catch k (app z y))) (lam x (throw k x)))))", "", "y", 15, true},
	{"(catch k (both x (app (lam z (catch k (app z y))) (lam x (throw k x)))))", "", "y", 17, true},
	// So has a frame, for app and for both.
	{"(app (lam x (app (app (lam x (lam y y)) y) x)) z)", "", "z", 16, true},
	{"(app (lam y (both (app (lam y y) x) y)) z)", "", "(both x z)", 15, true},
	{"(app (lam x (app (catch k (app (lam x (throw k (lam y y))) y)) x)) z)", "", "z", 18, true},
	{"(catch k (both (left (catch k (throw k (both x y)))) (throw k z)))", "", "z", 14, true},
	// A value keeps the environment in which it was made where a name is bound again: a variable is not looked up twice.
	{"(app (lam x (app (lam y x) z)) y)", "", "y", 11, true},
	{"(app (lam x (app (lam y (both x y)) z)) y)", "", "(both y z)", 15, true},
	{"(app (lam x (app (lam y (both x (left x))) z)) (both y y))", "", "(both (both y y) y)", 21, true},
	{"(app (lam x (catch k (app (lam x (throw k x)) y))) z)", "", "y", 13, true},
	{"(app (lam y (app (lam x (app y x)) x0)) (app (lam x (lam z x)) x1))", "", "x1", 21, true},
}

// withBeginning have the covariable that stands for the beginning in the statement.
var withBeginning = []machineCase{
	{"(throw m99 x)", "m99", "x", 2, false},
	{"(lam x (throw m99 x))", "", "fun", 1, false},
	{"(both (catch m99 x) (throw m99 y))", "m99", "y", 6, false},
	{"(app x (throw m99 y))", "stuck", "x", 2, false},
	{"(catch m99 x)", "", "x", 2, true},
	{"(catch m99 (throw m99 x))", "", "x", 3, true},
	{"(left (catch m99 (throw m99 (both x y))))", "", "x", 9, true},
	{"(throw k (catch m99 (throw m99 x)))", "k", "x", 4, true},
	{"(catch k (catch m99 (throw k (throw m99 x))))", "", "x", 5, true},
	{"(throw m099 x)", "m099", "x", 2, true},
	{"(throw m9 x)", "m9", "x", 2, true},
	{"(throw m990 x)", "m990", "x", 2, true},
	{"(throw l99 x)", "l99", "x", 2, true},
}

func allMachines() []machineCase {
	return slices.Concat(machineCases, stuckMachines, throws, environments, withBeginning)
}

// checkMachine holds what MachineRun, MachineMoves and MachineStatement tell of a source term against the helpers.
func checkMachine(t *testing.T, s string) {
	t.Helper()
	want, okWant := machineText(s)
	if got, ok := impl.MachineRun(s); ok != okWant || got != want {
		t.Errorf("MachineRun of %q: %v, %v, not %v", s, got, ok, want)
	}
	moves := -1
	if okWant {
		moves = want.Moves
	}
	if got := impl.MachineMoves(s); got != moves {
		t.Errorf("MachineMoves of %q: %d, not %d", s, got, moves)
	}
	statement := machineStatement(s)
	if got, ok := impl.MachineStatement(s); ok != (statement != "") || got != statement {
		t.Errorf("MachineStatement of %q: %q, %v, not %q", s, got, ok, statement)
	}
}

func TestMachineCases(t *testing.T) {
	for _, c := range allMachines() {
		checkMachine(t, c.s)
		want := impl.Run{End: c.end, Shape: c.shape, Moves: c.moves}
		if got, ok := impl.MachineRun(c.s); !ok || got != want {
			t.Errorf("MachineRun of %q: %v, %v, not %v", c.s, got, ok, want)
		}
		if got := impl.MachineMoves(c.s); got != c.moves {
			t.Errorf("MachineMoves of %q: %d", c.s, got)
		}
		if got := impl.MachineAgrees(c.s); got != c.agrees || got != agreesText(c.s) {
			t.Errorf("MachineAgrees of %q: %v", c.s, got)
		}
	}
}

// What is put at the end of a machine that ends otherwise: each case goes on with its value.
func TestMachineGoesOnWithTheValue(t *testing.T) {
	for _, c := range slices.Concat(machineCases, throws, environments) {
		if c.end != "" {
			continue
		}
		for around, more := range map[string]int{"(both z9 ?)": 4, "(both ? z9)": 4, "(left (both ? z9))": 6, "(right (both z9 ?))": 6, "(app (lam z8 z8) ?)": 5, "(app (lam z8 (both z8 z8)) ?)": 9, "(catch l9 ?)": 1, "(catch l9 (throw l9 ?))": 2} {
			s := strings.Replace(around, "?", c.s, 1)
			checkMachine(t, s)
			if got := impl.MachineMoves(s); got != c.moves+more {
				t.Errorf("MachineMoves of %q: %d, and of %q %d", c.s, c.moves, s, got)
			}
			if !impl.MachineAgrees(s) {
				t.Errorf("MachineAgrees of %q does not hold", s)
			}
		}
		for around, end := range map[string]string{"(throw l9 ?)": "l9", "(left (throw l9 ?))": "l9", "(catch l8 (throw l9 ?))": "l9", "(catch l9 (left (throw l9 ?)))": ""} {
			s := strings.Replace(around, "?", c.s, 1)
			checkMachine(t, s)
			if got, ok := impl.MachineRun(s); !ok || got.End != end || got.Shape != c.shape || !impl.MachineAgrees(s) {
				t.Errorf("MachineRun of %q: %v, %v", s, got, ok)
			}
		}
	}
}

// someMachines are the cases, the source terms of chapter 6, and many that go on for some moves.
func someMachines() []string {
	var some []string
	for _, c := range allMachines() {
		some = append(some, c.s)
	}
	m := &maker{state: 71}
	return slices.Concat(some, someSources(), m.applied(800))
}

// counted tells what becomes of a run.
func counted(run impl.Run, ok bool, agrees bool) string {
	switch {
	case !ok:
		return "none"
	case run.End == "":
		return "beginning " + strconv.FormatBool(agrees)
	case run.End == "stuck":
		return "stuck " + strconv.FormatBool(agrees)
	}
	return "thrown " + strconv.FormatBool(agrees)
}

// Where both end, they end alike, but for values with which a machine is stuck that are no variables.
func TestMachinesOfMany(t *testing.T) {
	counts := map[string]int{}
	for i, s := range someMachines() {
		checkMachine(t, s)
		run, okRun := impl.MachineRun(s)
		agrees := impl.MachineAgrees(s)
		counts[counted(run, okRun, agrees)]++
		if run.Moves > 20 {
			counts["long"]++
		}
		// The helper takes its time for statements, and RunOf was held against it.
		if i%10 == 0 && agrees != agreesText(s) {
			t.Errorf("MachineAgrees of %q: %v", s, agrees)
		}
		end, _, okEnd := impl.RunOf("value", machineStatement(s))
		if !okRun || !okEnd {
			if agrees {
				t.Errorf("MachineAgrees of %q, but one of both does not end", s)
			}
			continue
		}
		if want := run.End != "stuck" || nameText.MatchString(run.Shape); agrees != want || agrees != endsAs(run, end) {
			t.Errorf("MachineAgrees of %q: %v, with %v and %q", s, agrees, run, end)
		}
		parts := textParts(end)
		if waits := strings.HasPrefix(parts[2], "("); waits != (run.End == "stuck") || shapeText(parts[1]) != run.Shape {
			t.Errorf("the machine of %q ends as %v, and the statement as %q", s, run, end)
		}
	}
	for what, least := range map[string]int{"none": 1, "beginning true": 500, "beginning false": 20, "stuck true": 200, "stuck false": 50, "thrown true": 200, "thrown false": 3, "long": 200} {
		if counts[what] < least {
			t.Errorf("just %v", counts)
		}
	}
}

func TestMachineStatement(t *testing.T) {
	for s, want := range map[string]string{
		"x": "(cut x m99)", "z000": "(cut z000 m99)", "(both x y)": "(cut (pair x y) m99)",
		"(lam x x)":   "(cut (not (tmu x0 (cut x0 (fst (tmu x1 (cut x0 (snd (neg x1)))))))) m99)",
		"(app x y)":   "(cut (mu k0 (cut x (neg (pair y (not k0))))) m99)",
		"(left x0)":   "(cut (mu k0 (cut x0 (fst k0))) m99)",
		"(catch k x)": "(cut (mu k0 (cut x k0)) m99)", "(throw k x)": "(cut (mu k0 (cut x k)) m99)", "(throw k0 x)": "(cut (mu k1 (cut x k0)) m99)",
		"(catch m99 x)": "(cut (mu k0 (cut x k0)) m99)", "(catch m99 (throw m99 x))": "(cut (mu k0 (cut (mu k1 (cut x k0)) k0)) m99)",
		"(catch m99 (throw m9 x))": "(cut (mu k0 (cut (mu k1 (cut x m9)) k0)) m99)", "(throw m990 x)": "(cut (mu k0 (cut x m990)) m99)",
	} {
		checkMachine(t, s)
		if got, ok := impl.MachineStatement(s); !ok || got != want {
			t.Errorf("MachineStatement of %q: %q, %v", s, got, ok)
		}
	}
	for _, s := range []string{"(throw m99 x)", "(catch k (throw m99 x))", "(lam x (throw m99 x))", "(app x (throw m99 y))", "(both (catch m99 x) (throw m99 y))", "(throw m99 (catch m99 x))", "(catch m9 (throw m99 x))"} {
		checkMachine(t, s)
		if got, ok := impl.MachineStatement(s); ok || got != "" || impl.MachineAgrees(s) {
			t.Errorf("MachineStatement of %q: %q, %v", s, got, ok)
		}
		if _, ok := impl.SourceProgram(s); !ok || impl.MachineMoves(s) < 1 {
			t.Errorf("%q has no program, or the machine does not end", s)
		}
	}
}

// Statements have less than ProgramMax atoms, as programs of source terms have; just parentheses within each other can be too many.
func TestMachineStatementLimits(t *testing.T) {
	lams := func(s string) string { return around(24, "(lam x ", s, ")") }
	for s, want := range map[string]int{
		lams(around(3, "(catch k ", "(both x x)", ")")): 200, lams("(left (left (left x)))"): 200, "(both x " + lams(around(3, "(catch k ", "x", ")")) + ")": 200,
		lams(around(4, "(catch k ", "x", ")")): -1, around(25, "(lam x ", "x", ")"): -1, lams("(both x (left (left (left x))))"): -1, "(both x " + lams(around(3, "(catch k ", "(both x x)", ")")) + ")": -1,
	} {
		checkMachine(t, s)
		if _, ok := impl.SourceProgram(s); !ok {
			t.Fatalf("SourceProgram of %q fails", s)
		}
		got, ok := impl.MachineStatement(s)
		if ok != (want > 0) || ok && nesting(got) != want {
			t.Errorf("MachineStatement of %q: %d within each other, %v", s, nesting(got), ok)
		}
		// The machine itself needs no statement.
		if impl.MachineAgrees(s) != ok || impl.MachineMoves(s) < 1 {
			t.Errorf("MachineAgrees of %q: %v", s, !ok)
		}
	}
	for _, s := range append(greatestSources(), nestedTooMuch()...) {
		checkMachine(t, s)
	}
	if got, ok := impl.MachineStatement(greatestProgram); !ok || impl.ProgramSize(got) != 472 {
		t.Errorf("MachineStatement of %q: %d atoms, %v", greatestProgram, impl.ProgramSize(got), ok)
	}
}

// times is a function that applies a function so often.
func times(n int) string { return "(lam y (lam x " + around(n, "(app y ", "x", ")") + "))" }

// goesThrough applies a function as often as the first number to the power of the second tells.
func goesThrough(base int, power int, function string, s string) string {
	return "(app (app (app " + times(power) + " " + times(base) + ") " + function + ") " + s + ")"
}

// justMoves makes a source term of just so many moves that ends with a pair.
func justMoves(t *testing.T, moves int) string {
	t.Helper()
	s := "(app (app (app (app " + times(7) + " " + times(2) + ") " + times(1) + ") (lam x (left (both x x)))) x)"
	need := moves - impl.MachineMoves(s)
	s = around(need%4, "(catch k ", around(need/4, "(both ", s, " y)"), ")")
	if run, ok := machineText(s); moves <= 2000 && (!ok || run.Moves != moves) || !isSource(s) {
		t.Fatalf("%q has %d moves, not %d", s, run.Moves, moves)
	}
	return s
}

func TestMovesMax(t *testing.T) {
	if impl.MovesMax != 2000 {
		t.Errorf("MovesMax is %d", impl.MovesMax)
	}
	for _, more := range []int{-5, -1, 0, 1, 2, 5} {
		moves := impl.MovesMax + more
		for around, own := range map[string]int{"?": 0, "(throw l ?)": 1, "(catch l (throw l ?))": 2, "(left (left ?))": 4, "(left ?)": 2, "(app ? y)": 1, "(catch l (app ? y))": 2} {
			s := strings.Replace(around, "?", justMoves(t, moves-own), 1)
			checkMachine(t, s)
			got, ok := impl.MachineRun(s)
			if ok != (more <= 0) || ok && got.Moves != moves || !ok && got != (impl.Run{}) {
				t.Errorf("MachineRun of %q with %d moves: %v, %v", s, moves, got, ok)
			}
			if impl.MachineAgrees(s) {
				t.Errorf("MachineAgrees of %q, of which the statement does not end", s)
			}
		}
	}
}

// endlessMachines never end; some have ever larger values or stacks.
var endlessMachines = []string{
	"(app (lam x (app x x)) (lam x (app x x)))",
	"(app (lam x (app (app x x) x)) (lam x (app (app x x) x)))",
	"(app (lam x (app x (app x x))) (lam x (app x (app x x))))",
	"(app (lam x (left (app x x))) (lam x (left (app x x))))",
	"(app (lam x (both (app x x) y)) (lam x (both (app x x) y)))",
	"(app (lam x (both y (app x x))) (lam x (both y (app x x))))",
	"(app (lam x (catch k (app x x))) (lam x (catch k (app x x))))",
	"(app (lam x (app x x)) (catch k (lam y (throw k y))))",
	"(app (catch k (lam x (throw k (lam x (app x x))))) (lam x (app x x)))",
	"(throw l (app (lam x (throw l (app x x))) (lam x (throw l (app x x)))))",
	"(app (lam y (app (app y y) x)) (lam y (lam x (app (app y y) (both x x)))))",
	"(app (lam y (app (app y y) x)) (lam y (lam x (left (both (app (app y y) (both x x)) x)))))",
	"(left (both x (app (lam x (app x x)) (lam x (app x x)))))",
}

func TestMachinesThatNeverEnd(t *testing.T) {
	for _, s := range endlessMachines {
		checkMachine(t, s)
		if got, ok := impl.MachineRun(s); ok || got != (impl.Run{}) || impl.MachineMoves(s) != -1 || impl.MachineAgrees(s) {
			t.Errorf("MachineRun of %q: %v, %v", s, got, ok)
		}
		// What comes behind it is never reached, and what is not evaluated does not matter.
		for around, want := range map[string]int{"(app ? (throw k x))": -1, "(both ? (throw k x))": -1, "(lam x ?)": 1, "(app x ?)": 2, "(both (throw k x) ?)": 3, "(catch k (app (lam x (throw k x)) ?))": -1} {
			within := strings.Replace(around, "?", s, 1)
			if got := impl.MachineMoves(within); got != want {
				t.Errorf("MachineMoves of %q: %d", within, got)
			}
		}
	}
}

func twice(s string) string { return "(app (lam x (both x x)) " + s + ")" }

// longShape has a shape of as many bytes as the name, and 5998.
func longShape(name string) string {
	s := twice(twice("(both x y0)"))
	for range 6 {
		s = twice("(both " + s + " x)")
	}
	return "(both " + s + " " + name + ")"
}

func TestShapesOfTextMax(t *testing.T) {
	if impl.TextMax != 6000 {
		t.Errorf("TextMax is %d", impl.TextMax)
	}
	for name, bytes := range map[string]int{"x": 5999, "x0": 6000, "x00": 6001, "x000": 6002, "(lam x x)": 6001} {
		s := longShape(name)
		if !isSource(s) {
			t.Fatalf("%q is no source term", s)
		}
		for around, end := range map[string]string{"?": "", "(catch k ?)": "", "(throw k ?)": "k", "(catch k (left (throw k ?)))": "", "(app ? x)": "stuck", "(left (app ? x))": "stuck"} {
			within := strings.Replace(around, "?", s, 1)
			checkMachine(t, within)
			got, ok := impl.MachineRun(within)
			if ok != (bytes <= 6000) || ok && (got.End != end || len(got.Shape) != bytes) || !ok && got != (impl.Run{}) {
				t.Errorf("MachineRun of %q with a shape of %d bytes: %d bytes, %v", within, bytes, len(got.Shape), ok)
			}
			if impl.MachineAgrees(within) {
				t.Errorf("MachineAgrees of %q, which comes to more than ProgramMax atoms", within)
			}
		}
		// A shape that is not the end's may be of any length.
		for around, shape := range map[string]string{"(right (both ? x))": "x", "(app (lam y (lam z y)) ?)": "fun", "(right ?)": name} {
			within := strings.Replace(around, "?", s, 1)
			checkMachine(t, within)
			if got, ok := impl.MachineRun(within); !ok || got.Shape != strings.Replace(shape, "(lam x x)", "fun", 1) {
				t.Errorf("MachineRun of %q: %v, %v", within, got, ok)
			}
		}
	}
}

// Shapes that double so often that they can neither be written nor, in any integer, be counted.
func TestShapesFarBeyondTextMax(t *testing.T) {
	pair := "(lam x (both x x))"
	for doublings, s := range map[int]string{16: goesThrough(4, 2, pair, "x"), 27: goesThrough(3, 3, pair, "x"), 32: goesThrough(2, 5, pair, "x"), 64: goesThrough(2, 6, pair, "x"), 81: goesThrough(3, 4, pair, "x"), 125: goesThrough(5, 3, pair, "x")} {
		for _, around := range []string{"?", "(both ? y)", "(both y ?)", "(left ?)", "(right (right ?))", "(throw k ?)", "(app ? y)", "(left (app ? y))", "(app (lam x (both y (both x y))) ?)"} {
			within := strings.Replace(around, "?", s, 1)
			checkMachine(t, within)
			if got, ok := impl.MachineRun(within); ok || got != (impl.Run{}) || impl.MachineAgrees(within) {
				t.Errorf("MachineRun of %q, with %d doublings: %d bytes, %v", within, doublings, len(got.Shape), ok)
			}
		}
		for around, shape := range map[string]string{"(left (both y ?))": "y", "(app (lam x (lam z x)) ?)": "fun", "(both (lam x x) (left (both y ?)))": "(both fun y)", "(catch k (app (lam x (throw k z)) ?))": "z"} {
			within := strings.Replace(around, "?", s, 1)
			checkMachine(t, within)
			if got, ok := impl.MachineRun(within); !ok || got.Shape != shape {
				t.Errorf("MachineRun of %q, with %d doublings: %v, %v", within, doublings, got, ok)
			}
		}
	}
}

// A shape is no text of a chapter: it may have more parentheses within each other than those.
func TestShapesOfManyParentheses(t *testing.T) {
	s := goesThrough(3, 4, "(lam x (both (both (both x y) y) y))", "x")
	checkMachine(t, s)
	want := around(243, "(both ", "x", " y)")
	if got, ok := impl.MachineRun(s); !ok || got.Shape != want || impl.MachineAgrees(s) {
		t.Errorf("MachineRun of %q: %v, %v", s, got, ok)
	}
}

// manyMoves goes round with a list that gets shorter, and evaluates pairs each time, which takes moves but no steps.
func manyMoves(rounds int, pairs int) string {
	round := "(lam y (lam z (app (app y y) (right (left (both z " + tree("both", slices.Repeat([]string{"x"}, 1+pairs)) + "))))))"
	return "(app (app (lam y (app y y)) " + round + ") " + around(rounds, "(both x ", "x", ")") + ")"
}

// The machine ends, and the statement does in just StepsMax steps, or needs more, or comes to no program.
// No source term is known of which the statement ends while the machine needs more than MovesMax moves: of those that were tried, manyMoves among them, none needs 1500.
func TestMovesAndSteps(t *testing.T) {
	catches := func(count int, s string) string { return around(count, "(catch k ", s, ")") }
	for s, want := range map[string]struct{ moves, steps int }{
		tree("both", slices.Repeat([]string{"x"}, 40)): {157, 0}, catches(39, "x"): {40, 39}, manyMoves(13, 16): {1213, 294}, manyMoves(14, 15): {1239, -1},
		catches(5, manyMoves(13, 0)): {322, 299}, catches(6, manyMoves(13, 0)): {323, 300}, catches(7, manyMoves(13, 0)): {324, -1}, catches(8, manyMoves(13, 0)): {325, -1},
		goesThrough(3, 2, "(lam x x)", "x"): {86, 137}, goesThrough(2, 4, "(lam x x)", "x"): {186, -1}, goesThrough(4, 3, "(lam x x)", "x"): {451, -1},
		manyMoves(12, 17): {1179, 274}, "(left (both " + manyMoves(10, 0) + " x))": {253, 236},
	} {
		checkMachine(t, s)
		_, steps, ok := impl.RunOf("value", machineStatement(s))
		if !ok {
			steps = -1
		}
		if got := impl.MachineMoves(s); got != want.moves || steps != want.steps {
			t.Errorf("%q needs %d moves and %d steps", s, got, steps)
		}
		if got := impl.MachineAgrees(s); got != (want.steps >= 0) {
			t.Errorf("MachineAgrees of %q: %v", s, got)
		}
	}
}

// shapesOfValues are those of terms, of those that have one.
var shapesOfValues = map[string]string{
	"x": "x", "z000": "z000", "y12": "y12",
	"(not k)": "fun", "(not (fst k))": "fun", "(not (case k (neg (inl x))))": "fun", "(not (neg (mu k (cut x k))))": "fun", "(not (tmu x (cut (inl x) l)))": "fun", "(not (snd (neg (inr (mu k (cut (pair x (inl y)) k))))))": "fun",
	"(pair x y)": "(both x y)", "(pair x x)": "(both x x)", "(pair x (not k))": "(both x fun)", "(pair (not (neg (inl x))) y)": "(both fun y)", "(pair (not k) (not l))": "(both fun fun)",
	"(pair (pair x y) z)": "(both (both x y) z)", "(pair x (pair y z))": "(both x (both y z))", "(pair (pair x (not (fst k))) (pair (pair y x0) x0))": "(both (both x fun) (both (both y x0) x0))",
}

// withoutShapes are no values, have a part that is inl or inr, or are no terms.
var withoutShapes = []string{
	"(inl x)", "(inr x)", "(inl (not k))", "(inr (pair x y))", "(inl (inr x))",
	"(pair x (inl y))", "(pair (inl x) y)", "(pair (inr x) y)", "(pair x (inr y))", "(pair (inl x) (inr y))", "(pair (pair x (inl y)) z)", "(pair (pair (inr x) y) z)", "(pair x (pair y (inr z)))", "(pair (not k) (inl (not k)))",
	"(mu k (cut x k))", "(mu k (cut (pair x y) k))", "(pair (mu k (cut x k)) y)", "(pair x (mu k (cut y k)))", "(pair (pair x (mu k (cut y k))) z)", "(pair (inl x) (mu k (cut y k)))", "(pair (mu k (cut y k)) (inl x))", "(inl (mu k (cut x k)))",
	"k", "m99", "(fst k)", "(snd k)", "(case k l)", "(neg x)", "(tmu x (cut x k))", "(cut x k)", "(cut (pair x y) m99)",
	"fun", "stuck", "end", "(both x y)", "(both x fun)", "(lam x x)", "(app x y)", "(left x)", "(pair x fun)", "(pair fun x)",
}

func TestShapeOf(t *testing.T) {
	for s, want := range shapesOfValues {
		if got, ok := impl.ShapeOf(s); !ok || got != want || shapeText(s) != want {
			t.Errorf("ShapeOf of %q: %q, %v", s, got, ok)
		}
	}
	for _, s := range slices.Concat(withoutShapes, wrongPrograms()) {
		if got, ok := impl.ShapeOf(s); ok || got != "" || shapeText(s) != "" {
			t.Errorf("ShapeOf of %q: %q", s, got)
		}
	}
	some, none := 0, 0
	for _, s := range append(someTerms(), somePrograms()...) {
		got, ok := impl.ShapeOf(s)
		if want := shapeText(s); got != want || ok != (want != "") {
			t.Errorf("ShapeOf of %q: %q, %v, not %q", s, got, ok, want)
		}
		if ok {
			some++
		} else {
			none++
		}
	}
	if some < 100 || none < 500 {
		t.Errorf("just %d have shapes, and %d have none", some, none)
	}
}

func TestShapesOfTheGreatest(t *testing.T) {
	wide := tree("pair", slices.Repeat([]string{"z000"}, 250))
	deep := around(200, "(pair x ", "y", ")")
	for s, want := range map[string]string{
		wide: strings.ReplaceAll(wide, "pair", "both"), deep: strings.ReplaceAll(deep, "pair", "both"), "(not " + tree("case", slices.Repeat([]string{"k"}, 250)) + ")": "fun", "(not " + around(199, "(fst ", "k", ")") + ")": "fun",
		"(inl " + wide + ")": "", "(pair x " + deep + ")": "", "(pair x " + wide + ")": "", around(199, "(pair x ", "(inl y)", ")"): "", "(not " + around(200, "(fst ", "k", ")") + ")": "",
	} {
		if got, ok := impl.ShapeOf(s); ok != (want != "") || got != want {
			t.Errorf("ShapeOf of %q: %q, %v", s, got, ok)
		}
	}
}

// checkNoMachine tells that all functions of source terms fail for a text, and with what.
func checkNoMachine(t *testing.T, s string) {
	t.Helper()
	if got, ok := impl.MachineRun(s); ok || got != (impl.Run{}) {
		t.Errorf("MachineRun of %q: %v, %v", s, got, ok)
	}
	if got, ok := impl.MachineStatement(s); ok || got != "" {
		t.Errorf("MachineStatement of %q: %q, %v", s, got, ok)
	}
	if impl.MachineAgrees(s) {
		t.Errorf("MachineAgrees of %q holds", s)
	}
	if got := impl.MachineMoves(s); got != -1 {
		t.Errorf("MachineMoves of %q: %d", s, got)
	}
}

func TestTextsThatAreNoMachine(t *testing.T) {
	wrong := append(wrongSources(), "(throw m99 k)", "(cut x m99)", "(mu k (cut x k))", "(not k)", "(pair x y)", "stuck", "fun", "m99", "(catch m99 m99)", "(left "+longShape("x")+" "+longShape("x")+")")
	for _, s := range append(wrong, wrongPrograms()...) {
		if !isSource(s) {
			checkNoMachine(t, s)
		}
	}
	for _, s := range somePrograms() {
		if strings.Contains(s, "(") {
			checkNoMachine(t, s)
		}
	}
	// Source terms of the greatest size, and of one atom more.
	for _, s := range greatestSources() {
		if more := "(left " + s + ")"; !isSource(more) {
			checkNoMachine(t, more)
		}
	}
}

// Machines keep nothing: whatever ran before, a source term ends in the same way.
func TestMachinesKeepNothing(t *testing.T) {
	want := map[string]impl.Run{}
	for range 3 {
		for _, c := range allMachines() {
			got, ok := impl.MachineRun(c.s)
			if before, again := want[c.s]; !ok || again && got != before {
				t.Errorf("MachineRun of %q: %v, and before %v", c.s, got, before)
			}
			want[c.s] = got
		}
	}
}
