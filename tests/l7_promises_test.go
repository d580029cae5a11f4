package tests

import (
	"slices"
	"strings"
	"testing"

	"loop.example/classicalcontrol/impl"
)

// valueEnd tells where the statement of a machine ends by value, and in how many steps.
func valueEnd(s string) (string, int, bool) {
	statement, ok := impl.MachineStatement(s)
	if !ok {
		return "", 0, false
	}
	return impl.RunOf("value", statement)
}

func TestPromise49(t *testing.T) {
	typed, untyped := 0, 0
	for _, s := range someMachines() {
		_, okRun := impl.MachineRun(s)
		_, _, okEnd := valueEnd(s)
		if !okRun || !okEnd {
			continue
		}
		if _, ok := impl.SourceType(s); !ok {
			untyped++
			continue
		}
		typed++
		if !impl.MachineAgrees(s) {
			t.Errorf("MachineAgrees of %q, which has a typing, does not hold", s)
		}
	}
	if typed < 800 || untyped < 300 {
		t.Errorf("just %d have a typing, and %d have none", typed, untyped)
	}
}

func TestPromise50(t *testing.T) {
	done, pairs := 0, 0
	some := append(someTerms(), somePrograms()...)
	for s := range shapesOfValues {
		some = append(some, s)
	}
	slices.Sort(some)
	for _, s := range some {
		shape, ok := impl.ShapeOf(s)
		if !ok {
			continue
		}
		done++
		if !impl.ValueIs(s) || shape == "" {
			t.Errorf("ShapeOf of %q: %q, but it is no value", s, shape)
		}
		pair := "(pair " + s + " " + s + ")"
		got, ok := impl.ShapeOf(pair)
		if ok != (impl.ProgramKind(pair) == "term") || ok && got != "(both "+shape+" "+shape+")" || !ok && got != "" {
			t.Errorf("ShapeOf of %q: %q, %v", pair, got, ok)
		}
		if ok {
			pairs++
		}
	}
	if done < 200 || pairs < 200 || pairs == done {
		t.Errorf("just %d have shapes, and %d pairs", done, pairs)
	}
}

func TestPromise51(t *testing.T) {
	typed, untyped, none := 0, 0, 0
	for _, s := range append(someMachines(), nestedTooMuch()...) {
		statement, ok := impl.MachineStatement(s)
		if !ok {
			none++
			continue
		}
		if impl.ProgramKind(statement) != "statement" || canonOf(t, statement) != statement || impl.ProgramUses(statement, "m99") != 1 {
			t.Errorf("MachineStatement of %q: %q", s, statement)
		}
		p, okProgram := impl.SourceProgram(s)
		if !okProgram || statement != "(cut "+p+" m99)" {
			t.Errorf("MachineStatement of %q: %q, and SourceProgram %q", s, statement, p)
		}
		if _, ok := impl.SourceType(s); !ok {
			untyped++
			continue
		}
		typed++
		if !impl.TypeIs(statement) {
			t.Errorf("%q has a typing, but its statement %q has none", s, statement)
		}
	}
	if typed < 800 || untyped < 300 || none < 10 {
		t.Errorf("just %d have a typing, %d have none, and %d have no statement", typed, untyped, none)
	}
}

// caught puts a source term within catch of a covariable that is not free in it.
func caught(s string) string {
	return "(catch " + notIn(s, append(slices.Clone(fewCovariables), "k9")) + " " + s + ")"
}

// caughtAndThrown puts it within catch and throw of one.
func caughtAndThrown(s string) string {
	k := notIn(s, []string{"k", "l0", "k1", "m", "l999"})
	return "(catch " + k + " (throw " + k + " " + s + "))"
}

// Within catch there are a move, a step and two parentheses within each other more: at the limits this is too many.
func TestPromise52(t *testing.T) {
	done, atLimits := 0, 0
	lams := func(s string) string { return around(24, "(lam x ", s, ")") }
	limits := []string{lams(around(3, "(catch k ", "(both x x)", ")")), lams(around(3, "(catch k ", "x", ")")), around(6, "(catch k ", manyMoves(13, 0), ")")}
	for _, s := range append(someMachines(), limits...) {
		if !impl.MachineAgrees(s) {
			continue
		}
		run, okRun := impl.MachineRun(s)
		end, steps, ok := valueEnd(s)
		if !okRun || !ok || !endsAs(run, end) {
			t.Errorf("MachineAgrees of %q: %v, %v and %q, %v", s, run, okRun, end, ok)
		}
		around := caught(s)
		if !isSource(around) {
			continue
		}
		if steps == impl.StepsMax || nesting(machineStatement(s)) > 198 {
			atLimits++
			if _, _, ok := valueEnd(around); ok || impl.MachineAgrees(around) {
				t.Errorf("MachineAgrees of %q, where there is more than a limit", around)
			}
			continue
		}
		done++
		if !impl.MachineAgrees(around) {
			t.Errorf("MachineAgrees of %q holds, but not of %q", s, around)
		}
	}
	if done < 1000 || atLimits != 3 {
		t.Errorf("just %d agree, and %d at limits", done, atLimits)
	}
}

func TestPromise53(t *testing.T) {
	done := 0
	for _, s := range append(someMachines(), justMoves(t, 1999), justMoves(t, 2000)) {
		moves := impl.MachineMoves(s)
		if run, ok := impl.MachineRun(s); ok && run.Moves != moves || ok != (moves >= 1) {
			t.Errorf("MachineMoves of %q: %d, and MachineRun %v, %v", s, moves, run, ok)
		}
		around := caught(s)
		if moves == -1 || !isSource(around) {
			continue
		}
		done++
		want := moves + 1
		if want > impl.MovesMax {
			want = -1
		}
		if got := impl.MachineMoves(around); moves < 1 || got != want {
			t.Errorf("MachineMoves of %q: %d, and of %q %d", s, moves, around, got)
		}
	}
	if done < 1000 {
		t.Errorf("just %d", done)
	}
}

func TestPromise54(t *testing.T) {
	counts := map[string]int{}
	for _, s := range append(someMachines(), justMoves(t, 1998), justMoves(t, 1999), justMoves(t, 2000)) {
		run, ok := impl.MachineRun(s)
		around := caughtAndThrown(s)
		if !ok || !isSource(around) {
			continue
		}
		want := impl.Run{End: run.End, Shape: run.Shape, Moves: run.Moves + 2}
		tooMany := want.Moves > impl.MovesMax
		if tooMany {
			want = impl.Run{}
			counts["too many"]++
		}
		if got, ok := impl.MachineRun(around); ok == tooMany || got != want {
			t.Errorf("MachineRun of %q: %v, and of %q %v, %v", s, run, around, got, ok)
		}
		counts[strings.TrimLeft(run.End, "klm0123456789")+"."]++
	}
	if counts["."] < 1000 || counts["stuck."] < 300 || counts["too many"] != 2 {
		t.Errorf("just %v", counts)
	}
}
