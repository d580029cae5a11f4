package tests

import (
	"slices"
	"strconv"
	"strings"
	"testing"

	"loop.example/classicalcontrol/impl"
)

func TestPromise75(t *testing.T) {
	if got := impl.Execute(""); got != "atoms 3\n" {
		t.Errorf("Execute of an empty script: %q", got)
	}
	ignored := 0
	for i, text := range append(scripts(), strings.Repeat("show\n", 180), strings.Repeat("show\n", 181), strings.Repeat("x", 901), strings.Repeat("x", 5000)) {
		output := impl.Execute(text)
		if output == "" {
			t.Errorf("Execute of %q has no output", text)
		}
		// What follows is all but a newline, also what would be a line with one.
		for _, more := range []string{"x", "show", "set (cut (inl y) l)", "dual", " ", "\x00\xff", otherLines[1+i%(len(otherLines)-1)], strings.Repeat("z", max(0, 900-len(text)))} {
			if strings.Contains(more, "\n") || len(text)+len(more) > impl.MaxScript {
				continue
			}
			ignored++
			if got := impl.Execute(text + more); got != output {
				t.Errorf("Execute of %q: %q, and with %q behind it %q", text, output, more, got)
			}
		}
	}
	if ignored < 5000 {
		t.Errorf("just %d scripts with something behind them", ignored)
	}
}

// checkBehind tells what two lines behind a script print, the last line of which must stay.
func checkBehind(t *testing.T, text string, more string) []string {
	t.Helper()
	ahead, last := outputLines(impl.Execute(text))
	output := impl.Execute(text + more)
	aheadBehind, lastBehind := outputLines(output)
	told, ok := strings.CutPrefix(aheadBehind, ahead)
	lines := strings.SplitAfter(told, "\n")
	if !ok || last != lastBehind || len(lines) != 3 || lines[2] != "" {
		t.Fatalf("Execute of %q and %q: %q", text, more, output)
	}
	return lines[:2]
}

func TestPromise76(t *testing.T) {
	for _, text := range scripts() {
		if got := checkBehind(t, text, "zzz\nset x\n"); !slices.Equal(got, []string{"what\n", "no\n"}) {
			t.Errorf("zzz and set x behind %q print %q", text, got)
		}
	}
}

func TestPromise77(t *testing.T) {
	shown := map[string]bool{}
	for _, text := range scripts() {
		got := checkBehind(t, text, "show\nshow\n")
		if got[0] != got[1] || impl.ProgramKind(strings.TrimSuffix(got[0], "\n")) != "statement" {
			t.Errorf("show twice behind %q prints %q", text, got)
		}
		shown[got[0]] = true
	}
	if len(shown) < 300 {
		t.Errorf("just %d statements", len(shown))
	}
}

func TestPromise78(t *testing.T) {
	for _, text := range scripts() {
		if got := checkBehind(t, text, "dual\ndual\n"); !slices.Equal(got, []string{"ok\n", "ok\n"}) {
			t.Errorf("dual twice behind %q prints %q", text, got)
		}
		// The dual of the dual is the statement.
		if len(text) <= 885 {
			want, _ := outputLines(impl.Execute(text + "show\n"))
			if got, _ := outputLines(impl.Execute(text + "dual\ndual\nshow\n")); !strings.HasSuffix(got, "ok\nok\n"+want[strings.LastIndex(want[:len(want)-1], "\n")+1:]) {
				t.Errorf("dual twice behind %q changes the statement: %q", text, got)
			}
		}
	}
}

func TestPromise79(t *testing.T) {
	done, fails := map[string]int{}, 0
	for _, s := range shorter(statementsOnly(append(reducible(), somePrograms()...)), 880) {
		for kind := range kinds {
			text := "set " + s + "\nrun " + kind + "\nshow\n"
			end, steps, ok := impl.RunOf(kind, s)
			if len(text) > impl.MaxScript {
				continue
			}
			want := "ok\n" + strconv.Itoa(steps) + "\n" + end + "\n" + "atoms " + strconv.Itoa(impl.ProgramSize(end)) + "\n"
			if !ok {
				fails++
				want = "ok\nno\n" + s + "\n" + "atoms " + strconv.Itoa(impl.ProgramSize(s)) + "\n"
			} else {
				done[strconv.FormatBool(steps > 0)]++
			}
			if got := impl.Execute(text); got != want {
				t.Errorf("Execute of %q: %q, not %q", text, got, want)
			}
		}
	}
	if done["true"] < 800 || done["false"] < 200 || fails < 10 {
		t.Errorf("just %v runs, and %d without an end", done, fails)
	}
}

func TestPromise80(t *testing.T) {
	done, fails := 0, 0
	for _, f := range shorter(append(somethingValid(), someFormulas()...), 880) {
		text := "prove " + f + "\nshow\n"
		proof, ok := impl.Prove(nil, []string{f})
		want := "ok\n" + proof + "\n" + "atoms " + strconv.Itoa(impl.ProgramSize(proof)) + "\n"
		if !ok {
			want = "no\n(cut x k)\natoms 3\n"
			fails++
		} else {
			done++
		}
		if got := impl.Execute(text); got != want {
			t.Errorf("Execute of %q: %q, not %q", text, got, want)
		}
	}
	if done < 600 || fails < 300 {
		t.Errorf("just %d proofs, and %d formulas without one", done, fails)
	}
}

func TestPromise81(t *testing.T) {
	ends, fails := map[string]int{}, 0
	for _, s := range slices.Concat(shorter(someMachines(), 880), endlessMachines, []string{justMoves(t, 2000), justMoves(t, 2001), longShape("x0"), longShape("x00")}) {
		run, ok := impl.MachineRun(s)
		want := run.End + " " + run.Shape + "\natoms 3\n"
		switch {
		case !ok:
			want = "no\natoms 3\n"
			fails++
		case run.End == "":
			want = "end" + want
		}
		ends[strings.TrimRight(run.End, "0123456789")]++
		if got := impl.Execute("machine " + s + "\n"); got != want {
			t.Errorf("Execute of machine %q: %q, not %q", s, got, want)
		}
	}
	if ends[""] < 300 || ends["stuck"] < 100 || ends["k"] < 30 || fails < 10 {
		t.Errorf("just %v, and %d without an end", ends, fails)
	}
}

// linesOf are the lines of a text, none of the empty one.
func linesOf(text string) []string {
	if text == "" {
		return nil
	}
	return strings.Split(text, "\n")
}

// failsText tells the first assignment in which a sequent of few letters does not hold.
func failsText(left []string, right []string) ([]string, bool) {
	for _, chosen := range assignments(formulaLetters(slices.Concat(left, right)...)) {
		if !sequentHolds(left, right, chosen) {
			return chosen, true
		}
	}
	return nil, false
}

// checkPromise82 holds what is told of the formulas in the lines of two texts against the helpers, and tells what the sequent is.
func checkPromise82(t *testing.T, leftText string, rightText string) string {
	t.Helper()
	left, right := linesOf(leftText), linesOf(rightText)
	is := isSequent(left, right)
	many := is && len(formulaLetters(slices.Concat(left, right)...)) > 10
	valid := impl.SequentValid(left, right)
	letters, fails := impl.SequentFails(left, right)
	proof, proved := impl.Prove(left, right)
	var wantLetters []string
	wantFails := false
	if is && !many {
		wantLetters, wantFails = failsText(left, right)
	}
	if wantProof, _ := proofText(left, right); proof != wantProof || proved != (wantProof != "") {
		t.Errorf("Prove of %q and %q: %q, %v", left, right, proof, proved)
	}
	if fails != wantFails || !slices.Equal(letters, wantLetters) || valid != (is && !many && !wantFails) {
		t.Errorf("SequentFails of %q and %q: %q, %v, and SequentValid: %v", left, right, letters, fails, valid)
	}
	if proved && !(valid || many) || proved && !impl.ProofIs(proof, left, right) || fails && (valid || impl.SequentHolds(left, right, letters)) {
		t.Errorf("Prove of %q and %q: %q, SequentFails: %q, %v, and SequentValid: %v", left, right, proof, letters, fails, valid)
	}
	checkDualSequent(t, left, right, valid)
	switch {
	case !is:
		return "none"
	case many:
		return "many letters " + strconv.FormatBool(proved)
	}
	return "valid " + strconv.FormatBool(valid) + " " + strconv.FormatBool(proved)
}

// checkDualSequent tells that the dual of a sequent is valid just if it is, also with not.
func checkDualSequent(t *testing.T, left []string, right []string, valid bool) {
	t.Helper()
	dual := func(formulas []string) []string {
		var made []string
		for _, f := range formulas {
			d, ok := impl.FormulaDual(f)
			if ok != isFormula(f) {
				t.Errorf("FormulaDual of %q: %v", f, ok)
			}
			// What is no formula stays one that is none.
			if !ok {
				d = f
			}
			made = append(made, d)
		}
		return made
	}
	if got := impl.SequentValid(dual(right), dual(left)); got != valid {
		t.Errorf("SequentValid of the dual of %q and %q: %v", left, right, got)
	}
}

// changed puts in, takes out or replaces some pieces of a text.
func (m *maker) changed(s string, pieces []string) string {
	for range 1 + m.below(3) {
		i := m.below(len(s) + 1)
		s = s[:i] + pieces[m.below(len(pieces))] + s[min(len(s), i+m.below(3)):]
	}
	return s
}

func TestPromise82(t *testing.T) {
	pieces := []string{"", "", "a", "b", "c1", "*", "+", "-", "(", ")", " ", "\n", "\n", "a\n", "\nb", "(- a)", "(- b)", "7", "X", "\xff", "\r"}
	m := &maker{state: 106}
	counts := map[string]int{}
	for i, g := range goals() {
		left, right := strings.Join(g.left, "\n"), strings.Join(g.right, "\n")
		counts[checkPromise82(t, left, right)]++
		if i%2 == 0 {
			counts[checkPromise82(t, m.changed(left, pieces), m.changed(right, pieces))]++
		}
	}
	letters := numbered(14)
	for range 400 {
		made := m.validSequent(8, letters)
		counts[checkPromise82(t, strings.Join(made[0], "\n"), strings.Join(made[1], "\n"))]++
		counts[checkPromise82(t, strings.Join(m.formulas(m.below(6), 12, letters), "\n"), strings.Join(m.formulas(m.below(6), 12, letters), "\n"))]++
	}
	for _, text := range append(wrongFormulas(), strings.Repeat("a\n", 11)+"a", strings.Repeat("a\n", 12)+"a", strings.Repeat("a\n", 3000), "a\n", "\na", "\n", "a\n\nb") {
		for _, other := range []string{"", "a", "b\n(+ a (- a))"} {
			counts[checkPromise82(t, text, other)]++
			counts[checkPromise82(t, other, text)]++
		}
	}
	for kind, least := range map[string]int{"none": 500, "many letters true": 20, "many letters false": 50, "valid true true": 1500, "valid false false": 1000} {
		if counts[kind] < least {
			t.Errorf("just %v", counts)
		}
	}
	// What is valid and has no proof that is a program; see TestProofsOfProgramMax.
	if kind := checkPromise82(t, "", alone(1, 23)); kind != "valid true false" {
		t.Errorf("the sequent of %q is %q", alone(1, 23), kind)
	}
}

// checkPromise83 holds what is told of a text, a number and values against the helpers, and tells how far the meaning is known.
func checkPromise83(t *testing.T, s string, n int, values []int) string {
	t.Helper()
	kind := programKind(s)
	dual, ok := impl.ProgramDual(s)
	if impl.ProgramKind(s) != kind || ok != (kind != "") || ok && dual != dualText(s) || !ok && dual != "" {
		t.Errorf("ProgramKind of %q: %q, and ProgramDual: %q, %v", s, impl.ProgramKind(s), dual, ok)
	}
	y, typed := impl.TypeOf(s)
	if !ok {
		if typed || !emptyTyping(y) {
			t.Errorf("TypeOf of %q: %q, %v", s, y, typed)
		}
		return "no program"
	}
	if again, ok := impl.ProgramDual(dual); len(dual) <= impl.TextMax && (!ok || again != s || impl.ProgramSize(dual) != impl.ProgramSize(s)) {
		t.Errorf("ProgramDual of %q, the dual of %q: %q, %v", dual, s, again, ok)
	}
	// The helper writes types out, which may be far too large in larger programs.
	if impl.ProgramSize(s) <= 60 {
		if want, ok := typingText(s); ok != typed || !sameTyping(y, want) {
			t.Errorf("TypeOf of %q: %q, %v, not %q, %v", s, y, typed, want, ok)
		}
	}
	if !typed {
		return "no typing"
	}
	z, ok := impl.TypeDual(y)
	if !impl.TypeHas(s, y.Names, y.Types, y.Type) || !ok || !impl.TypeHas(dual, z.Names, z.Types, z.Type) {
		t.Errorf("TypeHas of %q with %q, or of its dual with %q", s, y, z)
	}
	return checkSameMeaning(t, asked{s, y.Names, y.Types, n, values})
}

// checkSameMeaning tells that what is meant is the same of the canonical statement, and behind a step by value.
func checkSameMeaning(t *testing.T, a asked) string {
	t.Helper()
	bit, ok := a.bit()
	// The helper asks for what may have a meaning just with a number that may.
	if a.n < 1 || a.n > 3 {
		if ok || bit != 0 {
			t.Errorf("MeanBit of %q for %d: %d, %v", a.s, a.n, bit, ok)
		}
		return "no meaning"
	}
	if want, told, found := a.bitText(); told != ok || found && bit != want {
		t.Errorf("MeanBit of %q with %q and %d at %v: %d, %v, not %d, %v", a.s, a.types, a.n, a.values, bit, ok, want, told)
	}
	if !ok {
		return "no meaning"
	}
	canon, okCanon := impl.ProgramCanon(a.s)
	next, okNext := impl.StepOf("value", a.s)
	if !okCanon {
		t.Errorf("ProgramCanon of %q fails", a.s)
	}
	if got, ok := a.behind(canon).bit(); !ok || got != bit {
		t.Errorf("MeanBit of %q with %q and %d at %v: %d, and of %q: %d, %v", a.s, a.types, a.n, a.values, bit, canon, got, ok)
	}
	if !okNext {
		return "meaning"
	}
	got, ok := a.behind(next).bit()
	if ok && got != bit {
		t.Errorf("MeanBit of %q with %q and %d at %v: %d, and of %q behind a step: %d", a.s, a.types, a.n, a.values, bit, next, got)
	}
	return "meaning and step " + strconv.FormatBool(ok)
}

func TestPromise83(t *testing.T) {
	pieces := []string{"", "", "x", "k", "y", "l", "0", "(", ")", " ", "x k", "(inl x)", "(fst k)", "(not k)", "(neg x)", "cut", "mu", "tmu", "pair", "X", "\xff", "\n"}
	m := &maker{state: 107}
	some := slices.Concat(somePrograms(), reducible(), wrongPrograms(), m.programs(900, 2))
	for _, p := range append(m.typedPrograms(300, 3), m.typedPrograms(600, 2)...) {
		some = append(some, p.text)
	}
	for _, a := range meant() {
		some = append(some, a.s)
	}
	counts := map[string]int{}
	for _, s := range some {
		y, _ := impl.TypeOf(s)
		right := m.someValues(asked{s: s, names: y.Names, types: y.Types, n: 1 + m.below(3)})
		counts[checkPromise83(t, s, right.n, right.values)]++
		// Numbers and values that may be none.
		wrong := slices.Clone(right.values)
		for i := range wrong {
			wrong[i] += m.below(4) - 1
		}
		counts[checkPromise83(t, s, m.below(6)-1, append(wrong, slices.Repeat([]int{0}, m.below(2))...))]++
		if len(s) < 100 {
			counts[checkPromise83(t, m.changed(s, pieces), 2, right.values)]++
		}
	}
	for kind, least := range map[string]int{"no program": 1000, "no typing": 500, "no meaning": 1000, "meaning": 300, "meaning and step true": 1000} {
		if counts[kind] < least {
			t.Errorf("just %v", counts)
		}
	}
}

// checkPromise84 holds what is told of a text as a source term against the helpers, and tells what becomes of it.
func checkPromise84(t *testing.T, s string) string {
	t.Helper()
	is := isSource(s)
	y, typed := impl.SourceType(s)
	run, ends := impl.MachineRun(s)
	moves := impl.MachineMoves(s)
	if impl.SourceValid(s) != is || ends && moves != run.Moves || !ends && moves != -1 {
		t.Errorf("SourceValid of %q: %v, MachineRun: %v, %v, and MachineMoves: %d", s, impl.SourceValid(s), run, ends, moves)
	}
	if !is {
		if typed || ends || !emptyTyping(y) || run != (impl.Run{}) {
			t.Errorf("SourceType of %q: %q, %v, and MachineRun: %v, %v", s, y, typed, run, ends)
		}
		return "no source term"
	}
	if want, ok := machineText(s); ok != ends || run != want {
		t.Errorf("MachineRun of %q: %v, %v, not %v, %v", s, run, ends, want, ok)
	}
	// The helper writes types out, which may be far too large in larger programs.
	if impl.SourceSize(s) <= 24 {
		if want, ok := sourceTyping(s); ok != typed || !sameTyping(y, want) {
			t.Errorf("SourceType of %q: %q, %v, not %q, %v", s, y, typed, want, ok)
		}
	}
	_, _, comes := valueEnd(s)
	if typed && ends && comes && !impl.MachineAgrees(s) {
		t.Errorf("MachineAgrees of %q, which has the typing %q, does not hold", s, y)
	}
	return "typed " + strconv.FormatBool(typed) + " ends " + strconv.FormatBool(ends && comes)
}

func TestPromise84(t *testing.T) {
	pieces := []string{"", "", "x", "k", "y", "l", "0", "(", ")", " ", "x y", "(left x)", "(lam x x)", "(throw k x)", "lam", "app", "both", "catch", "throw", "X", "\xff", "\n"}
	m := &maker{state: 108}
	counts := map[string]int{}
	for _, s := range slices.Concat(someMachines(), wrongSources(), wrongPrograms(), endlessMachines, nestedTooMuch(), m.sources(500, 3), m.composed(300), []string{justMoves(t, 2000), justMoves(t, 2001), longShape("x0"), longShape("x00")}) {
		counts[checkPromise84(t, s)]++
		if len(s) < 80 {
			counts[checkPromise84(t, m.changed(s, pieces))]++
		}
	}
	for kind, least := range map[string]int{"no source term": 1000, "typed true ends true": 1000, "typed false ends true": 300, "typed false ends false": 10, "typed true ends false": 1} {
		if counts[kind] < least {
			t.Errorf("just %v", counts)
		}
	}
}
