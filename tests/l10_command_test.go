package tests

import (
	"fmt"
	"slices"
	"strconv"
	"strings"
	"sync"
	"testing"

	"loop.example/classicalcontrol/impl"
)

// checkScript holds the output of a script against what is wanted, and against what the helper tells.
func checkScript(t *testing.T, text string, want string) {
	t.Helper()
	if got := impl.Execute(text); got != want {
		t.Errorf("Execute of %.900q: %.900q, not %.900q", text, got, want)
	}
	if got := scriptText(text); got != want {
		t.Errorf("the helper tells of %.900q %.900q, not %.900q", text, got, want)
	}
}

// scriptCases are scripts with their outputs.
var scriptCases = map[string]string{
	// The statement at the beginning, and that of the line of atoms.
	"": "atoms 3\n", "show\n": "(cut x k)\natoms 3\n", "show\nshow\n": "(cut x k)\n(cut x k)\natoms 3\n", "types\n": "x:a; k:a\natoms 3\n", "dual\n": "ok\natoms 3\n", "dual\nshow\n": "ok\n(cut x k)\natoms 3\n",
	"run value\n": "0\natoms 3\n", "run name\nshow\n": "0\n(cut x k)\natoms 3\n", "step value\n": "no\natoms 3\n", "step name\nshow\n": "no\n(cut x k)\natoms 3\n",
	// A last line without a newline is ignored, and an empty line is none of those of the words.
	"show": "atoms 3\n", "x": "atoms 3\n", " ": "atoms 3\n", "\n": "what\natoms 3\n", "\n\n": "what\nwhat\natoms 3\n", "\nshow\n\n": "what\n(cut x k)\nwhat\natoms 3\n", "show\nset (cut (inl x) k)": "(cut x k)\natoms 3\n", "show\n\x00": "(cut x k)\natoms 3\n", "set (cut (inl x) k)\ndual": "ok\natoms 4\n", "set (cut (inl x) k)": "atoms 3\n", "\nzzz": "what\natoms 3\n",
	"show\r\n": "what\natoms 3\n", "show\r\nshow\n": "what\n(cut x k)\natoms 3\n", "show\rshow\n": "what\natoms 3\n", "set (cut y l)\r\nshow\n": "no\n(cut x k)\natoms 3\n",
	// set takes the statement as it is, canonical or not.
	"set (cut y l)\nshow\n": "ok\n(cut y l)\natoms 3\n", "set (cut (mu m7 (cut x m7)) (tmu z9 (cut z9 (neg x))))\nshow\nshow\n": "ok\n(cut (mu m7 (cut x m7)) (tmu z9 (cut z9 (neg x))))\n(cut (mu m7 (cut x m7)) (tmu z9 (cut z9 (neg x))))\natoms 12\n", "set (cut x k)\nset (cut y (fst l))\nshow\n": "ok\nok\n(cut y (fst l))\natoms 4\n", "set (cut (mu k (cut x k)) k)\nset x\nset\nshow\n": "ok\nno\nwhat\n(cut (mu k (cut x k)) k)\natoms 7\n",
	// source, prove, step, run and dual change the statement.
	"source x\nshow\n": "ok\n(cut x m99)\natoms 3\n", "source (throw k y)\nshow\ntypes\n": "ok\n(cut (mu k0 (cut y k)) m99)\ny:a; k:a; m99:b\natoms 7\n", "source (catch k (throw k (lam x x)))\nrun value\nshow\n": "ok\n2\n(cut (not (tmu x0 (cut x0 (fst (tmu x1 (cut x0 (snd (neg x1)))))))) m99)\natoms 15\n",
	"prove (- (* a (- a)))\nshow\ntypes\n": "ok\n(cut (not (tmu x0 (cut x0 (fst (tmu x1 (cut x0 (snd (tmu x2 (cut x2 (neg (mu k1 (cut x1 k1)))))))))))) k0)\nk0:(- (* a (- a)))\natoms 23\n",
	"set (cut (mu l (cut x l)) (tmu z (cut z k)))\nstep value\nshow\nstep value\nshow\nstep value\nshow\n": "ok\nok\n(cut x (tmu x0 (cut x0 k)))\nok\n(cut x k)\nno\n(cut x k)\natoms 3\n", "set (cut (mu l (cut x l)) (tmu z (cut z k)))\nstep name\nshow\nrun name\nrun name\nshow\n": "ok\nok\n(cut (mu k0 (cut x k0)) k)\n1\n0\n(cut x k)\natoms 3\n",
	"set (cut (mu k (cut x l)) (tmu y (cut z m)))\nrun value\nshow\n": "ok\n1\n(cut x l)\natoms 3\n", "set (cut (mu k (cut x l)) (tmu y (cut z m)))\nrun name\nshow\n": "ok\n1\n(cut z m)\natoms 3\n", "set (cut (not (tmu y (cut y k))) l)\nrun value\nshow\n": "ok\n0\n(cut (not (tmu x0 (cut x0 k))) l)\natoms 8\n",
	"set (cut (pair x (inl y)) (fst k))\ndual\nshow\ndual\nshow\n": "ok\nok\n(cut (inl x) (case k (fst l)))\nok\n(cut (pair x (inl y)) (fst k))\natoms 7\n", "set (cut (mu m7 (cut z m7)) (tmu y (cut y k)))\ndual\nshow\n": "ok\nok\n(cut (mu l (cut x l)) (tmu z7 (cut z7 m)))\natoms 11\n",
	// The names and types of a statement.
	"set (cut (pair x y) (snd k))\ntypes\n": "ok\nx:a; y:b; k:b\natoms 6\n", "set (cut (not k) (neg z))\ntypes\n": "ok\nk:a; z:a\natoms 5\n", "set (cut (not (tmu x (cut x (neg (not k))))) m0)\ntypes\n": "ok\nk:a; m0:(- (- (- a)))\natoms 10\n", "set (cut (inl x) k)\ntypes\n": "ok\nx:a; k:(+ a b)\natoms 4\n", "set (cut (mu k (cut x k)) (tmu x (cut x (fst l))))\ntypes\n": "ok\nx:(* a b); l:a\natoms 12\n",
	"set (cut (pair x y) (case k l))\ntypes\nshow\n": "ok\nno\n(cut (pair x y) (case k l))\natoms 7\n", "set (cut x (neg x))\ntypes\nshow\n": "ok\nno\n(cut x (neg x))\natoms 4\n", "set " + forever + "\ntypes\n": "ok\nno\natoms 16\n",
	// The machine leaves the statement alone.
	"machine x\nshow\n": "end x\n(cut x k)\natoms 3\n", "machine (lam x x)\n": "end fun\natoms 3\n", "machine (both x (lam y y))\n": "end (both x fun)\natoms 3\n", "machine (throw k (both x y))\n": "k (both x y)\natoms 3\n", "machine (left (throw l9 (lam x x)))\n": "l9 fun\natoms 3\n", "machine (throw m99 y)\n": "m99 y\natoms 3\n", "machine (catch k (throw k x))\n": "end x\natoms 3\n", "machine (app x y)\n": "stuck x\natoms 3\n", "machine (left (lam x x))\nshow\n": "stuck fun\n(cut x k)\natoms 3\n", "machine (app (both x y) z)\n": "stuck (both x y)\natoms 3\n",
	"set (cut (inl y) l)\nmachine (app (lam x (both x x)) y)\nshow\n": "ok\nend (both y y)\n(cut (inl y) l)\natoms 4\n",
}

func TestScripts(t *testing.T) {
	for text, want := range scriptCases {
		checkScript(t, text, want)
	}
}

// from is a statement that has steps by both kinds, and of which the dual and the canonical one are others.
const from = "(cut (mu l (cut (pair x y) (fst l))) (tmu z (cut z k)))"

// A lineCase is a line with what it prints, and what it makes of a statement, "" for itself.
type lineCase struct{ line, told, next string }

// checkLine holds what a line prints and does against what is wanted.
func checkLine(t *testing.T, statement string, c lineCase) {
	t.Helper()
	if c.next == "" {
		c.next = statement
	}
	checkScript(t, "set "+statement+"\n"+c.line+"\nshow\n", "ok\n"+c.told+"\n"+c.next+"\n"+atomsText(c.next))
}

// lineCases are for each word the line of it alone, with a space behind it, and with a rest.
var lineCases = []lineCase{
	{"set", "what", ""}, {"set ", "no", ""}, {"set (cut y0 (neg x))", "ok", "(cut y0 (neg x))"}, {"set  ", "no", ""}, {"set (cut x k) ", "no", ""}, {"set  (cut x k)", "no", ""}, {"set x", "no", ""}, {"set k", "no", ""}, {"set (mu k (cut x k))", "no", ""}, {"set (tmu x (cut x k))", "no", ""}, {"set (pair x y)", "no", ""}, {"set (fst k)", "no", ""}, {"set (cut k x)", "no", ""}, {"set (cut x k)(cut x k)", "no", ""}, {"set (cut x k) (cut x k)", "no", ""}, {"set set (cut x k)", "no", ""}, {"set (cut x k)\r", "no", ""}, {"set \t(cut x k)", "no", ""}, {"set \xff", "no", ""}, {"set (cut x \xff)", "no", ""}, {"set (cut x k)\x00", "no", ""},
	{"source", "what", ""}, {"source ", "no", ""}, {"source (both x y)", "ok", "(cut (pair x y) m99)"}, {"source  ", "no", ""}, {"source x ", "no", ""}, {"source  x", "no", ""}, {"source k", "no", ""}, {"source (cut x k)", "no", ""}, {"source (pair x y)", "no", ""}, {"source (lam k x)", "no", ""}, {"source (throw m99 x)", "no", ""}, {"source (lam x (throw m99 x))", "no", ""}, {"source (catch m99 (throw m99 x))", "ok", "(cut (mu k0 (cut (mu k1 (cut x k0)) k0)) m99)"}, {"source x\r", "no", ""}, {"source \xff", "no", ""}, {"source (left (both x y))", "ok", "(cut (mu k0 (cut (pair x y) (fst k0))) m99)"},
	{"prove", "what", ""}, {"prove ", "no", ""}, {"prove (+ b (- b))", "ok", "(cut (inl (mu k1 (cut (inr (mu k2 (cut (not (tmu x0 (cut x0 k1))) k2))) k0))) k0)"}, {"prove  ", "no", ""}, {"prove (+ b (- b)) ", "no", ""}, {"prove  (+ b (- b))", "no", ""}, {"prove a", "no", ""}, {"prove (* a (- a))", "no", ""}, {"prove (- a)", "no", ""}, {"prove (+ a b)", "no", ""}, {"prove (cut x k)", "no", ""}, {"prove (+ aa (- aa))", "no", ""}, {"prove (+ b (- b))\r", "no", ""}, {"prove (+ b (- b)) (+ b (- b))", "no", ""}, {"prove \xff", "no", ""},
	{"step", "what", ""}, {"step ", "no", ""}, {"step value", "ok", "(cut (pair x y) (fst (tmu x0 (cut x0 k))))"}, {"step name", "ok", "(cut (mu k0 (cut (pair x y) (fst k0))) k)"}, {"step  ", "no", ""}, {"step value ", "no", ""}, {"step  value", "no", ""}, {"step values", "no", ""}, {"step Value", "no", ""}, {"step NAME", "no", ""}, {"step need", "no", ""}, {"step value name", "no", ""}, {"step value\r", "no", ""}, {"step name\x00", "no", ""}, {"step \xff", "no", ""}, {"step (cut x k)", "no", ""}, {"step 1", "no", ""},
	{"run", "what", ""}, {"run ", "no", ""}, {"run value", "3", "(cut x k)"}, {"run name", "3", "(cut x k)"}, {"run  ", "no", ""}, {"run value ", "no", ""}, {"run  value", "no", ""}, {"run values", "no", ""}, {"run Name", "no", ""}, {"run VALUE", "no", ""}, {"run need", "no", ""}, {"run value name", "no", ""}, {"run name\r", "no", ""}, {"run value\x00", "no", ""}, {"run \xff", "no", ""}, {"run (cut x k)", "no", ""}, {"run 3", "no", ""},
	{"machine", "what", ""}, {"machine ", "no", ""}, {"machine (throw k7 (lam x x))", "k7 fun", ""}, {"machine  ", "no", ""}, {"machine x ", "no", ""}, {"machine  x", "no", ""}, {"machine k", "no", ""}, {"machine (cut x k)", "no", ""}, {"machine (both x y", "no", ""}, {"machine x\r", "no", ""}, {"machine \xff", "no", ""}, {"machine (app (lam x (app x x)) (lam x (app x x)))", "no", ""}, {"machine x", "end x", ""}, {"machine (left x)", "stuck x", ""},
	{"dual", "ok", "(cut (mu m (cut x m)) (tmu y (cut (inl y) (case k l))))"}, {"dual ", "what", ""}, {"dual (cut x k)", "what", ""}, {"dual  ", "what", ""}, {"dual dual", "what", ""}, {"dual\r", "what", ""}, {"dual \xff", "what", ""},
	{"show", from, ""}, {"show ", "what", ""}, {"show (cut x k)", "what", ""}, {"show  ", "what", ""}, {"show show", "what", ""}, {"show\r", "what", ""}, {"show \xff", "what", ""},
	{"types", "x:a; y:b; k:a", ""}, {"types ", "what", ""}, {"types (cut x k)", "what", ""}, {"types  ", "what", ""}, {"types types", "what", ""}, {"types\r", "what", ""}, {"types \xff", "what", ""},
}

func TestLinesWithAndWithoutRests(t *testing.T) {
	for _, c := range lineCases {
		checkLine(t, from, c)
	}
}

func TestOtherLines(t *testing.T) {
	for _, line := range otherLines {
		checkLine(t, from, lineCase{line, "what", ""})
		checkScript(t, line+"\n", "what\natoms 3\n")
		// Without a newline they are no lines at all.
		checkScript(t, line, "atoms 3\n")
	}
}

// Bytes of which no word consists make another line of each line wherever they are put into the word.
func TestWordsWithBytesPutIn(t *testing.T) {
	for _, c := range []lineCase{{"set (cut x k)", "", "set"}, {"source x", "", "source"}, {"prove a", "", "prove"}, {"step value", "", "step"}, {"run value", "", "run"}, {"machine x", "", "machine"}, {"dual", "", "dual"}, {"show", "", "show"}, {"types", "", "types"}} {
		for b := range 256 {
			for i := range len(c.next) + 1 {
				line := c.line[:i] + string([]byte{byte(b)}) + c.line[i:]
				if b == '\n' || b == ' ' && i == len(c.next) {
					continue
				}
				checkScript(t, line+"\n", "what\natoms 3\n")
			}
		}
	}
}

// Whatever text stands behind a word that takes a rest, the line prints and does what the helper tells; most of them fail and change nothing.
func TestRestsOfAllKinds(t *testing.T) {
	rests := slices.Concat(shorter(wrongPrograms(), 800), shorter(wrongSources(), 800), shorter(wrongFormulas(), 800), shorter(somePrograms(), 800), shorter(someSources(), 400), shorter(someFormulas(), 800), otherLines)
	counts := map[string]int{}
	for _, word := range []string{"set", "source", "prove", "step", "run", "machine"} {
		for _, rest := range rests {
			text := "set " + from + "\n" + word + " " + rest + "\nshow\n"
			got := impl.Execute(text)
			if want := scriptText(text); got != want {
				t.Errorf("Execute of %q: %q, not %q", text, got, want)
			}
			if strings.HasPrefix(got, "ok\nno\n") {
				counts[word+" no"]++
				if got != "ok\nno\n"+from+"\n"+atomsText(from) {
					t.Errorf("Execute of %q, where a line fails: %q", text, got)
				}
			} else {
				counts[word]++
			}
		}
	}
	if counts["set"] < 100 || counts["source"] < 300 || counts["machine"] < 300 || counts["prove"] < 3 || counts["step"] != 2 || counts["run"] != 2 || counts["prove no"] < 1000 || counts["set no"] < 1000 {
		t.Errorf("just %v", counts)
	}
}

// A statement is kept as it was given, and the lines behind it do what the helper tells of it.
func TestStatementsOfAllKinds(t *testing.T) {
	given, other := 0, 0
	for _, s := range shorter(statementsOnly(slices.Concat(somePrograms(), reducible())), 800) {
		text := "set " + s + "\nshow\n"
		checkScript(t, text, "ok\n"+s+"\n"+atomsText(s))
		given++
		if canonOfText(s) != s {
			other++
		}
		for _, line := range []string{"dual", "step value", "step name", "run value", "run name"} {
			told, next := lineText(line, s)
			if more := text + line + "\nshow\n"; len(more) <= impl.MaxScript {
				checkScript(t, more, "ok\n"+s+"\n"+told+"\n"+next+"\n"+atomsText(next))
			}
		}
	}
	if given < 600 || other < 200 {
		t.Errorf("just %d statements, %d of them not canonical", given, other)
	}
}

func TestTypesOfStatements(t *testing.T) {
	some := shorter(statementsOnly(typable()), 880)
	m := &maker{state: 104}
	for _, p := range m.typedStatements(300, 4) {
		some = append(some, p.text)
	}
	// With more than 26 letters, with a type of just FormulaMax atoms and with one of more, with a part of more, and without a name.
	sixty := tree("pair", append(distinct(29), "(not k999)"))
	more := []lineCase{
		{"(cut " + tree("pair", distinct(30)) + " (fst k))", "", ""}, {"(cut " + sixty + " k)", "", ""}, {"(cut (inl " + sixty + ") k)", "no", ""}, {"(cut (pair (inl " + sixty + ") y) (snd k))", "", ""},
		{"(cut (mu k (cut x k)) (tmu x (cut x (neg x))))", "no", ""}, {forever, "no", ""}, {"(cut (not (tmu x (cut x (neg x)))) (neg (not (tmu x (cut x (neg x))))))", "no", ""},
	}
	for _, c := range more {
		told := typesText(c.line)
		if (told == "") != (c.told == "no") {
			t.Errorf("the helper tells of %q %q", c.line, told)
		}
		some = append(some, c.line)
	}
	done, fails := 0, 0
	for _, s := range append(some, shorter(reducible(), 880)...) {
		told := typesText(s)
		if told == "" {
			told = "no"
			fails++
		}
		if text := "set " + s + "\ntypes\n"; len(text) <= impl.MaxScript {
			checkScript(t, text, "ok\n"+told+"\n"+atomsText(s))
			done++
		}
	}
	if done < 600 || fails < 200 || done-fails < 300 {
		t.Errorf("just %d typings, %d of them none", done, fails)
	}
}

func TestMachinesInLines(t *testing.T) {
	ends := map[string]int{}
	for _, s := range shorter(someMachines(), 800) {
		told := endText(s)
		if told == "" {
			told = "no"
		}
		checkScript(t, "machine "+s+"\n", told+"\natoms 3\n")
		word, _, _ := strings.Cut(told, " ")
		ends[strings.TrimRight(word, "0123456789")]++
	}
	if ends["end"] < 300 || ends["stuck"] < 100 || ends["k"] < 30 || ends["l"] < 10 || ends["m"] < 10 {
		t.Errorf("just %v", ends)
	}
}

// Lines of which the chapters before limit what they make or how long it takes.
func TestLimitsInLines(t *testing.T) {
	catches := func(count int, s string) string { return around(count, "(catch k ", s, ")") }
	fourfold := func(inls int) string {
		return "(cut " + tree("pair", slices.Repeat([]string{"x"}, 62)) + " (tmu y (cut (pair (pair y y) (pair y " + around(inls, "(inl ", "y", ")") + ")) k)))"
	}
	forty := tree("both", slices.Repeat([]string{"x"}, 40))
	none := "no\n(cut x k)\n"
	for text, want := range map[string]string{
		// Just StepsMax steps, and one more.
		"source " + catches(6, manyMoves(13, 0)) + "\nrun value\n": "ok\n300\n", "source " + catches(7, manyMoves(13, 0)) + "\nrun value\n": "ok\nno\n", "source " + catches(7, manyMoves(13, 0)) + "\nstep value\nrun value\n": "ok\nok\n300\n",
		"set " + forever + "\nrun value\nshow\n": "ok\nno\n" + forever + "\n", "set " + forever + "\nrun name\nshow\n": "ok\nno\n" + forever + "\n", "set " + grows + "\nrun value\nshow\n": "ok\nno\n" + grows + "\n", "set " + nests + "\nrun value\nrun name\nshow\n": "ok\nno\nno\n" + nests + "\n",
		"set " + foreverByValue + "\nrun value\nshow\nrun name\nshow\n": "ok\nno\n" + foreverByValue + "\n1\n(cut z m)\n",
		// A step to just ProgramMax atoms, and to more: such a one is none, neither a step nor one of a run.
		"set " + fourfold(3) + "\nstep value\n": "ok\nok\natoms 500\n", "set " + fourfold(3) + "\nrun value\n": "ok\n1\natoms 500\n", "set " + fourfold(4) + "\nstep value\nrun value\nshow\n": "ok\nno\nno\n" + fourfold(4) + "\n",
		// A machine with just as many moves and bytes, and with more.
		"machine " + justMoves(t, 2000) + "\n": endText(justMoves(t, 2000)) + "\n", "machine " + justMoves(t, 2001) + "\n": "no\n", "machine " + longShape("x0") + "\n": endText(longShape("x0")) + "\n", "machine " + longShape("x00") + "\n": "no\n",
		// Source terms with just 80 atoms, and with one more; and one of which the statement has too many parentheses within each other.
		"machine (left " + forty + ")\n": endText("(left "+forty+")") + "\n", "machine (left (left " + forty + "))\nshow\n": none, "source (left " + forty + ")\n": "ok\n", "source (left (left " + forty + "))\nshow\n": none, "source " + around(24, "(lam x ", "x", ")") + "\n": "ok\n", "source " + around(25, "(lam x ", "x", ")") + "\nshow\n": none, "machine " + around(25, "(lam x ", "x", ")") + "\n": "end fun\n",
		// Formulas with just FormulaMax atoms, and with one more; and those of which the proof is none, as it has too many atoms.
		"prove " + nots(54, "(+ a (- (- (- a))))") + "\n": "ok\n", "prove " + nots(56, "(- (* a (- a)))") + "\nshow\n": none, "prove " + alone(2, 22) + "\n": "ok\n", "prove " + alone(1, 23) + "\nshow\n": none, "prove " + alone(0, 24) + "\nshow\n": none,
	} {
		got := impl.Execute(text)
		if got != scriptText(text) || !strings.HasPrefix(got, want) {
			t.Errorf("Execute of %q: %q, not %q, and the helper tells %q", text, got, want, scriptText(text))
		}
	}
}

// What a script with room for one byte more does, it does with it; one with a byte more does nothing.
func TestMaxScript(t *testing.T) {
	if impl.MaxScript != 900 {
		t.Errorf("MaxScript is %d", impl.MaxScript)
	}
	shows := strings.Repeat("(cut x k)\n", 180)
	greatest := "set (cut " + strings.Repeat("(inl ", 147) + "x" + strings.Repeat(")", 147) + " k12)\n"
	for text, want := range map[string]string{
		strings.Repeat("show\n", 180): shows + "atoms 3\n", strings.Repeat("show\n", 179) + "shows": shows[10:] + "atoms 3\n", strings.Repeat("show\n", 178) + "set \xff\xff\xff\xff\n\n": shows[20:] + "no\nwhat\natoms 3\n",
		strings.Repeat("\n", 900): strings.Repeat("what\n", 900) + "atoms 3\n", strings.Repeat("x", 900): "atoms 3\n", strings.Repeat("x", 899) + "\n": "what\natoms 3\n", "\n" + strings.Repeat(" ", 899): "what\natoms 3\n", "set " + strings.Repeat("x", 895) + "\n": "no\natoms 3\n", strings.Repeat("\x00", 899) + "\n": "what\natoms 3\n",
		// Bytes count, whatever they are.
		strings.Repeat("é", 449) + "x\n": "what\natoms 3\n", strings.Repeat("\xff", 899) + "\n": "what\natoms 3\n", strings.Repeat("\u2028", 300): "atoms 3\n", "set " + strings.Repeat("é", 447) + "x\n": "no\natoms 3\n",
		greatest + strings.Repeat("z", 900-len(greatest)): "ok\natoms 150\n", greatest + strings.Repeat("z", 899-len(greatest)) + "\n": "ok\nwhat\natoms 150\n",
	} {
		if len(text) != 900 {
			t.Errorf("%q has %d bytes", text, len(text))
		}
		checkScript(t, text, want)
		checkScript(t, text[:899], scriptText(text[:899]))
		for _, more := range []string{"\n", "x", " ", "\x00", "\xff", "é", "\nshow\n", strings.Repeat("\n", 900), strings.Repeat("show\n", 20000)} {
			checkScript(t, text+more, "too long\n")
			checkScript(t, more+text, "too long\n")
		}
	}
	for _, bytes := range []int{901, 902, 1023, 1024, 1800, 6000, 6001, 65536, 1 << 20} {
		checkScript(t, strings.Repeat("x", bytes), "too long\n")
		checkScript(t, strings.Repeat("\n", bytes), "too long\n")
	}
}

// Each script begins with (cut x k), whatever was run before, or is run at the same time.
func TestScriptsKeepNothing(t *testing.T) {
	some := []string{"show\n", "set (cut (inl y) l)\n", "show\n", "source (lam x x)\nrun value\n", "show\n", "prove (+ a (- a))\nstep value\n", "types\n", strings.Repeat("dual\n", 300), "show\n", "set (cut (inl y) l)\nzzz\nset x\n", "run value\nshow\n", "", "set (cut (pair x y) (fst k))", "show\ndual\nshow\n"}
	want := map[string]string{}
	for _, text := range some {
		want[text] = scriptText(text)
	}
	for range 20 {
		for _, text := range some {
			if got := impl.Execute(text); got != want[text] {
				t.Errorf("Execute of %q: %q, not %q", text, got, want[text])
			}
		}
	}
	var all sync.WaitGroup
	for i := range 8 {
		all.Go(func() {
			for j := range 200 {
				text := some[(i*5+j)%len(some)]
				if got := impl.Execute(text); got != want[text] {
					t.Errorf("Execute of %q: %q, not %q", text, got, want[text])
				}
			}
		})
	}
	all.Wait()
}

// lineKind tells what a line is, and what became of it.
func lineKind(line string, told string) string {
	word, _, spaced := strings.Cut(line, " ")
	if told != "what" && told != "no" {
		told = "done"
	}
	if lineShape.MatchString(line) {
		return word + " " + told
	}
	return fmt.Sprint("other line ", spaced)
}

func TestScriptsOfMany(t *testing.T) {
	counts := map[string]int{}
	m := &maker{state: 105}
	some := slices.Clone(scripts())
	for range 1500 {
		text := m.script(940)
		// The last line of some of them is not complete.
		some = append(some, text[:len(text)-min(len(text), m.below(2)*m.below(8))])
	}
	for _, text := range some {
		want := scriptText(text)
		checkScript(t, text, want)
		if want == "too long\n" {
			counts["too long"]++
			continue
		}
		told := strings.Split(want, "\n")
		for i, line := range strings.Split(text, "\n")[:strings.Count(text, "\n")] {
			counts[lineKind(line, told[i])]++
		}
	}
	for _, word := range []string{"set", "source", "prove", "step", "run", "machine"} {
		if counts[word+" done"] < 300 || counts[word+" no"] < 100 {
			t.Errorf("just %d lines %s, and %d that fail", counts[word+" done"], word, counts[word+" no"])
		}
	}
	for kind, least := range map[string]int{"dual done": 300, "show done": 300, "types done": 300, "types no": 100, "other line true": 300, "other line false": 300, "too long": 10} {
		if counts[kind] < least {
			t.Errorf("just %d of %s", counts[kind], kind)
		}
	}
}

// The output of a script is that of its lines, each one behind those ahead of it, and the line of atoms is just the last one.
func TestOutputsLineByLine(t *testing.T) {
	for _, text := range scripts()[:300] {
		output := impl.Execute(text)
		ahead, last := outputLines(output)
		if strings.Count(output, "\n") != strings.Count(text, "\n")+1 || !strings.HasSuffix(output, "\n") {
			t.Errorf("Execute of %q: %q, not one line for each line and one more", text, output)
		}
		if _, err := strconv.Atoi(strings.TrimSuffix(strings.TrimPrefix(last, "atoms "), "\n")); err != nil || !strings.HasPrefix(last, "atoms ") {
			t.Errorf("Execute of %q ends with %q", text, last)
		}
		for i := range text {
			if text[i] != '\n' {
				continue
			}
			part, _ := outputLines(impl.Execute(text[:i+1]))
			if !strings.HasPrefix(ahead, part) {
				t.Errorf("Execute of %q, the first lines of %q: %q, and then %q", text[:i+1], text, part, ahead)
			}
		}
	}
}
