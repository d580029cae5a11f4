package tests

import (
	"math"
	"slices"
	"strings"
	"testing"

	"loop.example/classicalcontrol/impl"
)

// A stepCase is a statement with that behind its step, and the rule.
type stepCase struct{ s, next, rule string }

// valueRules are steps by value of each rule, and of two of them that fit.
var valueRules = []stepCase{
	{"(cut (mu k (cut x k)) l)", "(cut x l)", "mu"},
	{"(cut (mu k (cut x l)) m)", "(cut x l)", "mu"},
	{"(cut (mu k (cut (not k) (neg (mu m (cut x k))))) (fst l))", "(cut (not (fst l)) (neg (mu k0 (cut x (fst l)))))", "mu"},
	{"(cut (pair (mu k (cut x k)) y) l)", "(cut (mu k0 (cut x k0)) (tmu x0 (cut (pair x0 y) l)))", "pair1"},
	{"(cut (pair y (mu k (cut x k))) l)", "(cut (mu k0 (cut x k0)) (tmu x0 (cut (pair y x0) l)))", "pair2"},
	{"(cut (inl (mu k (cut x k))) l)", "(cut (mu k0 (cut x k0)) (tmu x0 (cut (inl x0) l)))", "inl1"},
	{"(cut (inr (mu k (cut x k))) l)", "(cut (mu k0 (cut x k0)) (tmu x0 (cut (inr x0) l)))", "inr1"},
	{"(cut x (tmu y (cut y k)))", "(cut x k)", "tmu"},
	{"(cut (inl x) (tmu y (cut z k)))", "(cut z k)", "tmu"},
	{"(cut (pair x y) (tmu z (cut (pair z z) k)))", "(cut (pair (pair x y) (pair x y)) k)", "tmu"},
	{"(cut (not (tmu y (cut y l))) (tmu x (cut x (neg x))))", "(cut (not (tmu x0 (cut x0 l))) (neg (not (tmu x1 (cut x1 l)))))", "tmu"},
	{"(cut (pair x y) (fst k))", "(cut x k)", "pair fst"},
	{"(cut (pair x y) (snd k))", "(cut y k)", "pair snd"},
	{"(cut (inl x) (case k l))", "(cut x k)", "inl case"},
	{"(cut (inr x) (case k l))", "(cut x l)", "inr case"},
	{"(cut (not k) (neg x))", "(cut x k)", "not neg"},
	{"(cut (not (fst k)) (neg (mu m (cut x m))))", "(cut (mu k0 (cut x k0)) (fst k))", "not neg"},
	{"(cut (not (tmu y (cut y k))) (neg (inl x)))", "(cut (inl x) (tmu x0 (cut x0 k)))", "not neg"},
	{"(cut (pair (inl x) (not k)) (snd (neg y)))", "(cut (not k) (neg y))", "pair snd"},
	{"(cut (inr (pair x y)) (case k (fst l)))", "(cut (pair x y) (fst l))", "inr case"},
	// Two rules fit: mu or a part that is no value goes ahead of tmu, and of what meets.
	{"(cut (mu k (cut x l)) (tmu y (cut y m)))", "(cut x l)", "mu"},
	{"(cut (mu k (cut x k)) (tmu x (cut y m)))", "(cut x (tmu x0 (cut y m)))", "mu"},
	{"(cut (pair (mu k (cut x k)) y) (tmu z (cut z l)))", "(cut (mu k0 (cut x k0)) (tmu x0 (cut (pair x0 y) (tmu x1 (cut x1 l)))))", "pair1"},
	{"(cut (inl (mu k (cut x l))) (tmu z (cut y m)))", "(cut (mu k0 (cut x l)) (tmu x0 (cut (inl x0) (tmu x1 (cut y m)))))", "inl1"},
	{"(cut (pair x (mu k (cut y k))) (fst l))", "(cut (mu k0 (cut y k0)) (tmu x0 (cut (pair x x0) (fst l))))", "pair2"},
	{"(cut (pair (mu k (cut y k)) x) (snd l))", "(cut (mu k0 (cut y k0)) (tmu x0 (cut (pair x0 x) (snd l))))", "pair1"},
	{"(cut (inr (mu k (cut y k))) (case k l))", "(cut (mu k0 (cut y k0)) (tmu x0 (cut (inr x0) (case k l))))", "inr1"},
	{"(cut (inl (mu k (cut y k))) (case k l))", "(cut (mu k0 (cut y k0)) (tmu x0 (cut (inl x0) (case k l))))", "inl1"},
	// Coterms of any kind are taken whole.
	{"(cut (pair x y) (fst (tmu z (cut z (neg y)))))", "(cut x (tmu x0 (cut x0 (neg y))))", "pair fst"},
	{"(cut (inl x) (case (tmu z (cut z k)) (tmu z (cut y l))))", "(cut x (tmu x0 (cut x0 k)))", "inl case"},
	// What does not fit together goes on as far as a rule fits.
	{"(cut (pair (mu k (cut x k)) y) (neg z))", "(cut (mu k0 (cut x k0)) (tmu x0 (cut (pair x0 y) (neg z))))", "pair1"},
	// A name that is bound twice is that of the innermost one, and nothing that is put is captured.
	{"(cut (mu k (cut (mu k (cut x k)) k)) l)", "(cut (mu k0 (cut x k0)) l)", "mu"},
	{"(cut (mu k (cut (mu l (cut x k)) k)) l)", "(cut (mu k0 (cut x l)) l)", "mu"},
	{"(cut y (tmu x (cut (mu k (cut x (tmu y (cut (pair x y) k)))) m)))", "(cut (mu k0 (cut y (tmu x0 (cut (pair y x0) k0)))) m)", "tmu"},
	{"(cut (mu k (cut x0 (tmu x0 (cut x0 k)))) (neg x0))", "(cut x0 (tmu x1 (cut x1 (neg x0))))", "mu"},
}

// nameRules are steps by name: those by value of the duals.
var nameRules = []stepCase{
	{"(cut x (tmu y (cut y k)))", "(cut x k)", "mu"},
	{"(cut (pair x y) (tmu z (cut x k)))", "(cut x k)", "mu"},
	{"(cut (inl x) (tmu z (cut (mu m (cut z k)) (neg z))))", "(cut (mu k0 (cut (inl x) k)) (neg (inl x)))", "mu"},
	{"(cut x (case (tmu y (cut y k)) l))", "(cut (mu k0 (cut x (case k0 l))) (tmu x0 (cut x0 k)))", "pair1"},
	{"(cut x (case l (tmu y (cut y k))))", "(cut (mu k0 (cut x (case l k0))) (tmu x0 (cut x0 k)))", "pair2"},
	{"(cut x (fst (tmu y (cut y k))))", "(cut (mu k0 (cut x (fst k0))) (tmu x0 (cut x0 k)))", "inl1"},
	{"(cut x (snd (tmu y (cut y k))))", "(cut (mu k0 (cut x (snd k0))) (tmu x0 (cut x0 k)))", "inr1"},
	{"(cut (mu k (cut x k)) l)", "(cut x l)", "tmu"},
	{"(cut (mu k (cut x l)) (fst m))", "(cut x l)", "tmu"},
	{"(cut (mu k (cut (not k) (case k k))) (neg (inl x)))", "(cut (not (neg (inl x))) (case (neg (inl x)) (neg (inl x))))", "tmu"},
	{"(cut (inl x) (case k l))", "(cut x k)", "pair fst"},
	{"(cut (inr x) (case k l))", "(cut x l)", "pair snd"},
	{"(cut (pair x y) (fst k))", "(cut x k)", "inl case"},
	{"(cut (pair x y) (snd k))", "(cut y k)", "inr case"},
	{"(cut (not k) (neg x))", "(cut x k)", "not neg"},
	{"(cut (not (tmu z (cut y l))) (neg (mu m (cut x m))))", "(cut (mu k0 (cut x k0)) (tmu x0 (cut y l)))", "not neg"},
	// Two rules fit: tmu or a part that is no covalue goes ahead of mu, and of what meets.
	{"(cut (mu k (cut x l)) (tmu y (cut y m)))", "(cut (mu k0 (cut x l)) m)", "mu"},
	{"(cut (mu k (cut y m)) (tmu x (cut x k)))", "(cut (mu k0 (cut y m)) k)", "mu"},
	{"(cut (mu k (cut x k)) (fst (tmu z (cut z l))))", "(cut (mu k0 (cut (mu k1 (cut x k1)) (fst k0))) (tmu x0 (cut x0 l)))", "inl1"},
	{"(cut (inl x) (case (tmu y (cut y k)) l))", "(cut (mu k0 (cut (inl x) (case k0 l))) (tmu x0 (cut x0 k)))", "pair1"},
	{"(cut (inl x) (case k (tmu y (cut y l))))", "(cut (mu k0 (cut (inl x) (case k k0))) (tmu x0 (cut x0 l)))", "pair2"},
	{"(cut (pair x y) (fst (tmu z (cut z k))))", "(cut (mu k0 (cut (pair x y) (fst k0))) (tmu x0 (cut x0 k)))", "inl1"},
	{"(cut (pair x y) (snd (tmu z (cut z k))))", "(cut (mu k0 (cut (pair x y) (snd k0))) (tmu x0 (cut x0 k)))", "inr1"},
	// Terms of any kind are taken whole.
	{"(cut (pair (mu k (cut x k)) y) (fst l))", "(cut (mu k0 (cut x k0)) l)", "inl case"},
	{"(cut (inr (mu k (cut x k))) (case l m))", "(cut (mu k0 (cut x k0)) m)", "pair snd"},
	{"(cut (mu k (cut (mu k (cut x k)) k)) l)", "(cut (mu k0 (cut x k0)) l)", "tmu"},
}

// stuckStatements have no step of the kinds that are told.
var stuckStatements = map[string]string{
	"(cut x k)": "value name", "(cut x999 m000)": "value name", "(cut x (neg y))": "value name", "(cut (not k) l)": "value name", "(cut x (fst k))": "value name", "(cut x (snd (case k l)))": "value name", "(cut x (case k (fst l)))": "value name",
	"(cut (pair x y) k)": "value name", "(cut (inl (pair x y)) k)": "value name", "(cut (inr (not k)) k)": "value name", "(cut (not (tmu x (cut x k))) l)": "value name", "(cut x (neg (mu k (cut x k))))": "value name",
	// By value a coterm may have parts of all kinds, by name a term.
	"(cut x (fst (tmu y (cut y k))))": "value", "(cut x (case (tmu y (cut y k)) l))": "value", "(cut x (case l (snd (tmu y (cut y k)))))": "value",
	"(cut (inl (mu k (cut x k))) l)": "name", "(cut (pair x (mu k (cut x k))) l)": "name", "(cut (pair (inr (mu k (cut x k))) y) l)": "name",
	// What does not fit together.
	"(cut (pair x y) (case k l))": "value name", "(cut (pair x y) (neg z))": "value name", "(cut (inl x) (fst k))": "value name", "(cut (inl x) (snd k))": "value name", "(cut (inl x) (neg y))": "value name", "(cut (inr x) (fst k))": "value name", "(cut (inr x) (snd k))": "value name", "(cut (inr x) (neg y))": "value name",
	"(cut (not k) (fst k))": "value name", "(cut (not k) (snd k))": "value name", "(cut (not k) (case k l))": "value name",
	"(cut (not k) (fst (tmu y (cut y k))))": "value", "(cut (pair x (mu k (cut x k))) (neg z))": "name", "(cut (inl (mu k (cut x k))) (fst l))": "name",
	// Not canonical, by names that are bound.
	"(cut (not (tmu y (cut y (fst (tmu y (cut y k)))))) l)": "value name", "(cut z (neg (mu m (cut (not m) m))))": "value name", "(cut x0 (neg (mu k0 (cut x0 k0))))": "value name",
}

// values are terms, and whether they are values.
var values = map[string]bool{
	"x": true, "y000": true, "z9": true, "(not k)": true, "(not (tmu x (cut x k)))": true, "(not (fst (neg (mu k (cut x k)))))": true,
	"(pair x y)": true, "(pair x x)": true, "(inl x)": true, "(inr x)": true, "(inl (inr (pair (inl x) (not k))))": true, "(pair (pair x (inr y)) (inl (not (neg (mu k (cut x k))))))": true,
	"(mu k (cut x k))": false, "(pair (mu k (cut x k)) y)": false, "(pair x (mu k (cut y k)))": false, "(pair (mu k (cut x k)) (mu k (cut y k)))": false, "(inl (mu k (cut x k)))": false, "(inr (mu k (cut x k)))": false,
	"(pair (pair x (mu k (cut x k))) y)": false, "(pair x (pair (mu k (cut x k)) y))": false, "(pair (inl x) (inr (mu k (cut x k))))": false, "(inl (inr (mu k (cut x k))))": false, "(inl (pair x (inl (mu k (cut x k)))))": false, "(inr (pair (mu k (cut x k)) x))": false, "(pair (not k) (mu k (cut (not k) k)))": false,
}

func TestValueIs(t *testing.T) {
	for s, want := range values {
		if got := impl.ValueIs(s); got != want {
			t.Errorf("ValueIs of %q: %v", s, got)
		}
		if got := impl.CovalueIs(dualText(s)); got != want {
			t.Errorf("CovalueIs of %q: %v", dualText(s), got)
		}
		if impl.CovalueIs(s) || impl.ValueIs(dualText(s)) || impl.ValueIs("(cut "+s+" k)") || impl.CovalueIs("(cut "+s+" k)") {
			t.Errorf("a term, coterm or statement of %q is taken for one of another kind", s)
		}
	}
	for s, want := range map[string]bool{
		"k": true, "m09": true, "(neg (mu k (cut x k)))": true, "(case k (fst l))": true, "(snd (case k (neg x)))": true,
		"(tmu x (cut x k))": false, "(fst (tmu x (cut x k)))": false, "(snd (tmu x (cut x k)))": false, "(case (tmu x (cut x k)) l)": false, "(case l (tmu x (cut x k)))": false, "(case k (snd (tmu x (cut x k))))": false,
	} {
		if got := impl.CovalueIs(s); got != want {
			t.Errorf("CovalueIs of %q: %v", s, got)
		}
	}
}

func TestValueIsOfMany(t *testing.T) {
	m := &maker{state: 42}
	found := map[bool]int{}
	for range 1500 {
		s := m.program("term", 3)
		want := valueText(s)
		found[want && strings.HasPrefix(s, "(")]++
		if impl.ValueIs(s) != want || impl.CovalueIs(dualText(s)) != want {
			t.Errorf("ValueIs of %q: %v, and CovalueIs of its dual: %v", s, impl.ValueIs(s), impl.CovalueIs(dualText(s)))
		}
	}
	if found[true] < 200 || found[false] < 200 {
		t.Errorf("just %v", found)
	}
	for _, s := range somePrograms() {
		kind := programKind(s)
		if got, want := impl.ValueIs(s), kind == "term" && valueText(s); got != want {
			t.Errorf("ValueIs of %q: %v", s, got)
		}
		if got, want := impl.CovalueIs(s), kind == "coterm" && valueText(dualText(s)); got != want {
			t.Errorf("CovalueIs of %q: %v", s, got)
		}
	}
}

// checkStep holds a step against what is told.
func checkStep(t *testing.T, kind string, s string, next string) {
	t.Helper()
	if got, ok := impl.StepOf(kind, s); !ok || got != next {
		t.Errorf("StepOf %s of %q: %q, %v, not %q", kind, s, got, ok, next)
	}
	if got, n, ok := impl.StepMany(kind, s, 1); !ok || n != 1 || got != next {
		t.Errorf("StepMany %s of %q: %q, %d, %v, not %q", kind, s, got, n, ok, next)
	}
	if impl.StuckIs(kind, s) {
		t.Errorf("%q is stuck by %s", s, kind)
	}
}

func TestStepOfRules(t *testing.T) {
	rules := map[string]bool{}
	for kind, cases := range map[string][]stepCase{"value": valueRules, "name": nameRules} {
		for _, c := range cases {
			checkStep(t, kind, c.s, c.next)
			checkStep(t, kinds[kind], dualText(c.s), canonOfText(dualText(c.next)))
			if next, rule := stepText(kind, c.s); next != c.next || rule != c.rule {
				t.Errorf("the text of %q by %s is rewritten to %q by the rule %q", c.s, kind, next, rule)
			}
			rules[kind+" "+c.rule] = true
		}
	}
	if len(rules) != 22 {
		t.Errorf("just %v", rules)
	}
}

func TestStuckStatements(t *testing.T) {
	for s, stuck := range stuckStatements {
		for kind := range kinds {
			want := strings.Contains(stuck, kind)
			if got := impl.StuckIs(kind, s); got != want {
				t.Errorf("StuckIs %s of %q: %v", kind, s, got)
			}
			if got := impl.StuckIs(kinds[kind], dualText(s)); got != want {
				t.Errorf("StuckIs %s of %q: %v", kinds[kind], dualText(s), got)
			}
			if !want {
				continue
			}
			if got, ok := impl.StepOf(kind, s); ok || got != "" {
				t.Errorf("StepOf %s of %q: %q, %v", kind, s, got, ok)
			}
			for _, n := range []int{0, 1, 17, impl.StepsMax} {
				if got, done, ok := impl.StepMany(kind, s, n); !ok || got != s || done != 0 {
					t.Errorf("StepMany %s of %q: %q, %d, %v", kind, s, got, done, ok)
				}
			}
			if got, n, ok := impl.RunOf(kind, s); !ok || n != 0 || got != canonOfText(s) {
				t.Errorf("RunOf %s of %q: %q, %d, %v", kind, s, got, n, ok)
			}
		}
	}
}

// TestStepsOfMany holds steps and runs against rewriting of the texts.
func TestStepsOfMany(t *testing.T) {
	rules := map[string]int{}
	for _, s := range reducible() {
		for kind := range kinds {
			next, rule := stepText(kind, s)
			rules[kind+" "+rule]++
			if rule == "" != impl.StuckIs(kind, s) {
				t.Errorf("StuckIs %s of %q: %v", kind, s, rule != "")
			}
			if programKind(next) == "" {
				next = ""
			}
			if got, ok := impl.StepOf(kind, s); got != next || ok != (next != "") {
				t.Errorf("StepOf %s of %q: %q, %v, not %q", kind, s, got, ok, next)
			}
			for _, n := range []int{0, 1, 2, 5, 40} {
				want := runText(kind, s, n)
				if got, steps, ok := impl.StepMany(kind, s, n); !ok || got != want.end || steps != want.steps {
					t.Errorf("StepMany %s of %q with %d: %q, %d, %v, not %q, %d", kind, s, n, got, steps, ok, want.end, want.steps)
				}
			}
		}
	}
	if len(rules) != 24 {
		t.Errorf("just %v", rules)
	}
	for rule, n := range rules {
		if n < 5 {
			t.Errorf("%s just %d times", rule, n)
		}
	}
}

// checkRun holds RunOf against rewriting of the text, and returns what that tells.
func checkRun(t *testing.T, kind string, s string) run {
	t.Helper()
	want := runText(kind, s, impl.StepsMax)
	got, steps, ok := impl.RunOf(kind, s)
	if ok != want.stuck {
		t.Errorf("RunOf %s of %q: %v", kind, s, ok)
	}
	if !want.stuck && (got != "" || steps != 0) || want.stuck && (got != canonOfText(want.end) || steps != want.steps) {
		t.Errorf("RunOf %s of %q: %q, %d, not %q, %d", kind, s, got, steps, want.end, want.steps)
	}
	if got, steps, ok := impl.StepMany(kind, s, impl.StepsMax); !ok || got != want.end || steps != want.steps {
		t.Errorf("StepMany %s of %q: %q, %d, %v, not %q, %d", kind, s, got, steps, ok, want.end, want.steps)
	}
	return want
}

func TestRunOfMany(t *testing.T) {
	far, differ, half := 0, 0, 0
	for _, s := range reducible() {
		byValue, byName := checkRun(t, "value", s), checkRun(t, "name", s)
		value, name, ok := impl.StepBoth(s)
		if ok != (byValue.stuck && byName.stuck) {
			t.Errorf("StepBoth of %q: %v", s, ok)
		}
		if !ok && (value != 0 || name != 0) || ok && (value != byValue.steps || name != byName.steps) {
			t.Errorf("StepBoth of %q: %d, %d, not %d, %d", s, value, name, byValue.steps, byName.steps)
		}
		if ok && value > 5 && name > 5 {
			far++
		}
		if ok && value != name {
			differ++
		}
		if byValue.stuck != byName.stuck {
			half++
		}
	}
	if far < 30 || differ < 100 || half < 2 {
		t.Errorf("just %d far ones, %d that differ, and %d stuck by one kind", far, differ, half)
	}
}

// checkPath holds all the steps of a statement against those that are told.
func checkPath(t *testing.T, kind string, path ...string) {
	t.Helper()
	for n, want := range path {
		got, steps, ok := impl.StepMany(kind, path[0], n)
		if !ok || got != want || steps != n {
			t.Errorf("StepMany %s of %q with %d: %q, %d, %v, not %q", kind, path[0], n, got, steps, ok, want)
		}
	}
	last := len(path) - 1
	if got, steps, ok := impl.RunOf(kind, path[0]); !ok || got != path[last] || steps != last {
		t.Errorf("RunOf %s of %q: %q, %d, %v", kind, path[0], got, steps, ok)
	}
}

func TestPartsThatAreNoValues(t *testing.T) {
	checkPath(t, "value", "(cut (pair (mu k (cut x k)) y) (fst l))",
		"(cut (mu k0 (cut x k0)) (tmu x0 (cut (pair x0 y) (fst l))))", "(cut x (tmu x0 (cut (pair x0 y) (fst l))))", "(cut (pair x y) (fst l))", "(cut x l)")
	checkPath(t, "value", "(cut (pair y (mu k (cut x k))) (fst l))",
		"(cut (mu k0 (cut x k0)) (tmu x0 (cut (pair y x0) (fst l))))", "(cut x (tmu x0 (cut (pair y x0) (fst l))))", "(cut (pair y x) (fst l))", "(cut y l)")
	// Both: the first one goes ahead.
	checkPath(t, "value", "(cut (pair (mu k (cut x k)) (mu k (cut y k))) l)",
		"(cut (mu k0 (cut x k0)) (tmu x0 (cut (pair x0 (mu k1 (cut y k1))) l)))",
		"(cut x (tmu x0 (cut (pair x0 (mu k0 (cut y k0))) l)))",
		"(cut (pair x (mu k0 (cut y k0))) l)",
		"(cut (mu k0 (cut y k0)) (tmu x0 (cut (pair x x0) l)))",
		"(cut y (tmu x0 (cut (pair x x0) l)))",
		"(cut (pair x y) l)")
	// A part of a part: the outer one is taken out first.
	checkPath(t, "value", "(cut (inl (inr (mu k (cut x k)))) (case l m))",
		"(cut (inr (mu k0 (cut x k0))) (tmu x0 (cut (inl x0) (case l m))))",
		"(cut (mu k0 (cut x k0)) (tmu x0 (cut (inr x0) (tmu x1 (cut (inl x1) (case l m))))))",
		"(cut x (tmu x0 (cut (inr x0) (tmu x1 (cut (inl x1) (case l m))))))",
		"(cut (inr x) (tmu x0 (cut (inl x0) (case l m))))",
		"(cut (inl (inr x)) (case l m))",
		"(cut (inr x) l)")
	checkPath(t, "value", "(cut (pair x (pair (inl y) (inl (mu k (cut z l))))) (fst m))",
		"(cut (pair (inl y) (inl (mu k0 (cut z l)))) (tmu x0 (cut (pair x x0) (fst m))))",
		"(cut (inl (mu k0 (cut z l))) (tmu x0 (cut (pair (inl y) x0) (tmu x1 (cut (pair x x1) (fst m))))))",
		"(cut (mu k0 (cut z l)) (tmu x0 (cut (inl x0) (tmu x1 (cut (pair (inl y) x1) (tmu x2 (cut (pair x x2) (fst m))))))))",
		"(cut z l)")
	// By name the parts of a pair stay as they are.
	checkPath(t, "name", "(cut (pair (mu k (cut x k)) (mu k (cut y k))) (fst l))", "(cut (mu k0 (cut x k0)) l)", "(cut x l)")
	checkPath(t, "name", "(cut (inl (mu k0 (cut x l))) m)")
	checkPath(t, "name", "(cut (pair x y) (snd (tmu z (cut (pair z z) k))))",
		"(cut (mu k0 (cut (pair x y) (snd k0))) (tmu x0 (cut (pair x0 x0) k)))",
		"(cut (pair (mu k0 (cut (pair x y) (snd k0))) (mu k1 (cut (pair x y) (snd k1)))) k)")
	checkPath(t, "name", "(cut (inl x) (case (tmu y (cut y k)) (tmu z (cut z l))))",
		"(cut (mu k0 (cut (inl x) (case k0 (tmu x0 (cut x0 l))))) (tmu x1 (cut x1 k)))",
		"(cut (mu k0 (cut (inl x) (case k0 (tmu x0 (cut x0 l))))) k)",
		"(cut (inl x) (case k (tmu x0 (cut x0 l))))",
		"(cut (mu k0 (cut (inl x) (case k k0))) (tmu x0 (cut x0 l)))",
		"(cut (mu k0 (cut (inl x) (case k k0))) l)",
		"(cut (inl x) (case k l))",
		"(cut x k)")
	// No value stays as it is within what is no pair: in not, and in all coterms.
	checkPath(t, "value", "(cut (not (fst (tmu x (cut x k)))) (neg (pair x (mu k (cut y k)))))",
		"(cut (pair x (mu k0 (cut y k0))) (fst (tmu x0 (cut x0 k))))",
		"(cut (mu k0 (cut y k0)) (tmu x0 (cut (pair x x0) (fst (tmu x1 (cut x1 k))))))",
		"(cut y (tmu x0 (cut (pair x x0) (fst (tmu x1 (cut x1 k))))))",
		"(cut (pair x y) (fst (tmu x0 (cut x0 k))))",
		"(cut x (tmu x0 (cut x0 k)))",
		"(cut x k)")
}

// shortNames are all names of a class that have 1 or 2 bytes, and some longer ones.
func shortNames(class string, longer ...string) []string {
	var names []string
	for _, first := range class {
		names = append(names, string(first))
		for digit := range 10 {
			names = append(names, string(first)+string(rune('0'+digit)))
		}
	}
	return append(names, longer...)
}

func TestNewNamesAreNew(t *testing.T) {
	numberedNames := func(first string) []string {
		var names []string
		for i := range 100 {
			names = append(names, first+string(rune('0'+i/10))+string(rune('0'+i%10)))
		}
		return names
	}
	unready := "(mu k (cut x0 k))"
	all := tree("pair", append(shortNames("xyz"), numberedNames("x")...))
	for _, c := range [][2]string{
		{"(cut (pair " + unready + " x0) (neg x1))", "(cut (mu k0 (cut x0 k0)) (tmu x2 (cut (pair x2 x0) (neg x1))))"},
		{"(cut (pair x1 " + unready + ") (neg (pair x2 x0)))", "(cut (mu k0 (cut x0 k0)) (tmu x3 (cut (pair x1 x3) (neg (pair x2 x0)))))"},
		{"(cut (inl " + unready + ") (neg x0))", "(cut (mu k0 (cut x0 k0)) (tmu x1 (cut (inl x1) (neg x0))))"},
		{"(cut (inr " + unready + ") (tmu x1 (cut x0 (neg x1))))", "(cut (mu k0 (cut x0 k0)) (tmu x1 (cut (inr x1) (tmu x2 (cut x0 (neg x2))))))"},
		{"(cut (pair (mu k (cut y k)) (not (tmu x0 (cut x0 k)))) l)", "(cut (mu k0 (cut y k0)) (tmu x0 (cut (pair x0 (not (tmu x1 (cut x1 k)))) l)))"},
		{"(cut (pair " + unready + " " + all + ") k)", "(cut (mu k0 (cut x0 k0)) (tmu x100 (cut (pair x100 " + all + ") k)))"},
		{"(cut (inl " + unready + ") (neg " + all + "))", "(cut (mu k0 (cut x0 k0)) (tmu x100 (cut (inl x100) (neg " + all + "))))"},
	} {
		s, want := c[0], c[1]
		got, ok := impl.StepOf("value", s)
		if next, _ := valueStep(s); !ok || got != next || next != want {
			t.Errorf("StepOf of %q: %q, %v, not %q", s, got, ok, want)
		}
		ofDual, ok := impl.StepOf("name", dualText(s))
		if next := canonOfText(dualText(want)); !ok || ofDual != next {
			t.Errorf("StepOf of %q: %q, %v, not %q", dualText(s), ofDual, ok, next)
		}
	}
}

func TestStepLimits(t *testing.T) {
	pairs := func(atoms int) string {
		if atoms%2 == 0 {
			return "(inl " + tree("pair", slices.Repeat([]string{"x"}, atoms/2)) + ")"
		}
		return tree("pair", slices.Repeat([]string{"x"}, (atoms+1)/2))
	}
	deep := func(n int) string { return around(n, "(fst ", "k", ")") }
	for _, c := range []struct {
		s     string
		fails bool
	}{
		// 500 atoms behind the step, and one more.
		{"(cut " + pairs(249) + " (tmu x (cut x (neg x))))", false}, {"(cut " + pairs(250) + " (tmu x (cut x (neg x))))", true}, {"(cut " + pairs(250) + " (tmu x (cut y (neg x))))", false},
		{"(cut (mu l (cut (not l) l)) (neg " + pairs(248) + "))", false}, {"(cut (mu l (cut (not l) l)) (neg " + pairs(249) + "))", true},
		{"(cut (inl (mu l (cut x l))) (neg " + pairs(488) + "))", false}, {"(cut (inl (mu l (cut x l))) (neg " + pairs(489) + "))", true},
		{"(cut (pair (mu l (cut x l)) " + pairs(488) + ") k)", false}, {"(cut (pair (mu l (cut x l)) " + pairs(489) + ") k)", true},
		{"(cut (pair " + pairs(488) + " (mu l (cut x l))) k)", false}, {"(cut (pair " + pairs(489) + " (mu l (cut x l))) k)", true},
		// 200 parentheses within each other behind the step, and one more.
		{"(cut (mu l (cut x (snd l))) " + deep(198) + ")", false}, {"(cut (mu l (cut x (snd l))) " + deep(199) + ")", true},
		{"(cut (inl (mu l (cut x l))) " + deep(197) + ")", false}, {"(cut (inl (mu l (cut x l))) " + deep(198) + ")", true},
		{"(cut (pair (mu l (cut x l)) " + dualText(deep(196)) + ") k)", false}, {"(cut (pair (mu l (cut x l)) " + dualText(deep(197)) + ") k)", true},
		{"(cut " + dualText(deep(197)) + " (tmu y (cut (not k) (neg (inr y)))))", false}, {"(cut " + dualText(deep(198)) + " (tmu y (cut (not k) (neg (inr y)))))", true},
	} {
		if programKind(c.s) != "statement" {
			t.Fatalf("%q is no statement", c.s)
		}
		for _, way := range []struct{ kind, s string }{{"value", c.s}, {"name", dualText(c.s)}} {
			want, rule := stepText(way.kind, way.s)
			if rule == "" || (programKind(want) == "") != c.fails {
				t.Fatalf("%q comes to %q", way.s, want)
			}
			if !c.fails {
				checkStep(t, way.kind, way.s, want)
				continue
			}
			if got, ok := impl.StepOf(way.kind, way.s); ok || got != "" {
				t.Errorf("StepOf %s of %q: %q, %v", way.kind, way.s, got, ok)
			}
			if impl.StuckIs(way.kind, way.s) {
				t.Errorf("%q is stuck by %s", way.s, way.kind)
			}
			for _, n := range []int{0, 1, impl.StepsMax} {
				if got, done, ok := impl.StepMany(way.kind, way.s, n); !ok || got != way.s || done != 0 {
					t.Errorf("StepMany %s of %q: %q, %d, %v", way.kind, way.s, got, done, ok)
				}
			}
			if got, done, ok := impl.RunOf(way.kind, way.s); ok || got != "" || done != 0 {
				t.Errorf("RunOf %s of %q: %q, %d, %v", way.kind, way.s, got, done, ok)
			}
		}
	}
}

// A statement of the greatest size whose step is far beyond all limits, and those that stop there after some steps.
func TestStepsBeyondLimits(t *testing.T) {
	great := "(cut (mu l (cut (not l) " + tree("case", slices.Repeat([]string{"l"}, 110)) + ")) " + tree("case", slices.Repeat([]string{"k"}, 110)) + ")"
	for _, s := range []string{great, dualText(great), grows, dualText(grows), delayed(5, great), dualText(delayed(5, great))} {
		ended := 0
		for kind := range kinds {
			r := checkRun(t, kind, s)
			if !r.stuck && r.steps < impl.StepsMax {
				ended++
				next, rule := stepText(kind, r.end)
				if rule == "" || programKind(next) != "" {
					t.Errorf("%q goes on to %q", r.end, next)
				}
				if _, ok := impl.StepOf(kind, r.end); ok || impl.StuckIs(kind, r.end) {
					t.Errorf("%q, which goes on to no program, has a step or is stuck", r.end)
				}
			}
		}
		if ended == 0 {
			t.Errorf("%q does not come to a limit", s)
		}
	}
}

// TestStepsMax holds statements that come to a stuck one in just StepsMax steps, and in one more.
func TestStepsMax(t *testing.T) {
	if impl.StepsMax != 300 {
		t.Errorf("StepsMax is %d", impl.StepsMax)
	}
	s := "(cut " + unready(60) + " k)"
	need := runText("value", s, 1000).steps
	stuck := "(cut " + tree("pair", slices.Repeat([]string{"x"}, 60)) + " k)"
	for _, more := range []int{-3, -1, 0, 1, 2, 3} {
		some := delayed(impl.StepsMax-need+more, s)
		for kind, s := range map[string]string{"value": some, "name": dualText(some)} {
			end := stuck
			if kind == "name" {
				end = dualText(stuck)
			}
			wantEnd, wantSteps := end, impl.StepsMax+more
			if more > 0 {
				wantEnd, wantSteps = "", 0
			}
			if got, steps, ok := impl.RunOf(kind, s); ok != (more <= 0) || got != wantEnd || steps != wantSteps {
				t.Errorf("RunOf %s of a statement with %d steps: %q, %d, %v", kind, impl.StepsMax+more, got, steps, ok)
			}
			behind, steps, ok := impl.StepMany(kind, s, impl.StepsMax)
			if !ok || steps != min(impl.StepsMax, impl.StepsMax+more) || impl.StuckIs(kind, behind) != (more <= 0) {
				t.Errorf("StepMany %s of a statement with %d steps: %q, %d, %v", kind, impl.StepsMax+more, behind, steps, ok)
			}
			if got, steps, ok := impl.RunOf(kind, behind); !ok || got != end || steps != max(0, more) {
				t.Errorf("RunOf %s of %q: %q, %d, %v", kind, behind, got, steps, ok)
			}
		}
	}
}

func TestStepBoth(t *testing.T) {
	for s, want := range map[string][2]int{
		"(cut x k)": {0, 0},
		"(cut (mu k (cut x l)) (tmu y (cut y m)))":      {1, 2},
		"(cut (mu k (cut x k)) (tmu y (cut z m)))":      {2, 1},
		"(cut (pair (mu k (cut x k)) y) (fst l))":       {4, 2},
		"(cut (inl x) (case (tmu y (cut y k)) l))":      {2, 4},
		"(cut (inl (mu k (cut x k))) l)":                {3, 0},
		"(cut x (fst (tmu y (cut y k))))":               {0, 3},
		"(cut (not (tmu y (cut z l))) (neg (inl x)))":   {2, 2},
		"(cut (inl (mu k (cut x k))) (case (neg y) l))": {4, 2},
	} {
		for _, way := range []string{s, dualText(s)} {
			if way != s {
				want[0], want[1] = want[1], want[0]
			}
			value, name, ok := impl.StepBoth(way)
			if !ok || value != want[0] || name != want[1] {
				t.Errorf("StepBoth of %q: %d, %d, %v", way, value, name, ok)
			}
		}
	}
	s := "(cut " + unready(60) + " k)"
	need := runText("value", s, 1000).steps
	for more, want := range []bool{true, false} {
		some := delayed(impl.StepsMax-need+more, s)
		for _, way := range []string{some, dualText(some)} {
			value, name, ok := impl.StepBoth(way)
			if ok != want || !ok && (value != 0 || name != 0) || ok && (max(value, name) != impl.StepsMax || min(value, name) != impl.StepsMax-need) {
				t.Errorf("StepBoth of a statement with %d steps by one kind: %d, %d, %v", impl.StepsMax+more, value, name, ok)
			}
		}
	}
}

func TestStatementsThatNeverEnd(t *testing.T) {
	for _, s := range append(endless(), delayed(3, forever), delayed(3, grows)) {
		some := false
		for kind := range kinds {
			r := checkRun(t, kind, s)
			some = some || !r.stuck
		}
		if value, name, ok := impl.StepBoth(s); !some || ok || value != 0 || name != 0 {
			t.Errorf("StepBoth of %q: %d, %d, %v", s, value, name, ok)
		}
	}
	for _, kind := range []string{"value", "name"} {
		for n := range impl.StepsMax + 1 {
			if _, steps, ok := impl.StepMany(kind, forever, n); !ok || steps != n {
				t.Errorf("StepMany %s with %d: %d, %v", kind, n, steps, ok)
			}
		}
	}
	checkPath(t, "name", foreverByValue, "(cut z m)")
	checkPath(t, "value", dualText(foreverByValue), "(cut z m)")
}

func TestStepManyAsItStands(t *testing.T) {
	for _, s := range []string{"(cut (mu l (cut x l)) (tmu y (cut y m)))", "(cut (not (tmu y (cut y (neg y)))) (neg (mu m (cut (not m) m))))", "(cut (not (tmu y (cut y k))) l)"} {
		for kind := range kinds {
			if got, n, ok := impl.StepMany(kind, s, 0); !ok || n != 0 || got != s {
				t.Errorf("StepMany %s of %q: %q, %d, %v", kind, s, got, n, ok)
			}
		}
	}
}

func TestWrongNumbersOfSteps(t *testing.T) {
	for _, n := range []int{-1, -2, -300, impl.StepsMax + 1, impl.StepsMax + 2, 1 << 16, 1<<32 + 1, math.MinInt, math.MaxInt} {
		for _, s := range []string{"(cut x k)", "(cut (pair x y) (fst k))", forever, "x", ""} {
			for _, kind := range []string{"value", "name", "kind"} {
				if got, steps, ok := impl.StepMany(kind, s, n); ok || steps != 0 || got != "" {
					t.Errorf("StepMany %s of %q with %d: %q, %d, %v", kind, s, n, got, steps, ok)
				}
			}
		}
	}
}

// checkNoStep holds that nothing is told of a kind or a statement that is none.
func checkNoStep(t *testing.T, kind string, s string) {
	t.Helper()
	if got, ok := impl.StepOf(kind, s); ok || got != "" {
		t.Errorf("StepOf %q of %q: %q, %v", kind, s, got, ok)
	}
	for _, n := range []int{0, 1, impl.StepsMax} {
		if got, steps, ok := impl.StepMany(kind, s, n); ok || got != "" || steps != 0 {
			t.Errorf("StepMany %q of %q with %d: %q, %d, %v", kind, s, n, got, steps, ok)
		}
	}
	if impl.StuckIs(kind, s) {
		t.Errorf("StuckIs %q of %q", kind, s)
	}
	if got, steps, ok := impl.RunOf(kind, s); ok || got != "" || steps != 0 {
		t.Errorf("RunOf %q of %q: %q, %d, %v", kind, s, got, steps, ok)
	}
}

func TestWrongKindsOfSteps(t *testing.T) {
	for _, kind := range []string{"", " ", "Value", "NAME", "value ", " name", "values", "nam", "valuename", "value name", "by value", "term", "coterm", "statement", "x", "value\n", "name\x00", "\xff", "(value)", "(cut x k)", strings.Repeat("value", 2000)} {
		for _, s := range []string{"(cut x k)", "(cut (pair x y) (fst k))", "(cut (mu k (cut x l)) (tmu y (cut y m)))", forever, "x", "(cut", ""} {
			checkNoStep(t, kind, s)
		}
	}
}

func TestTextsThatAreNoStatement(t *testing.T) {
	wrong := wrongPrograms()
	for s, kind := range smallPrograms {
		if kind != "statement" {
			wrong = append(wrong, s)
		}
	}
	for _, s := range greatestPrograms() {
		if programKind(s) != "statement" {
			wrong = append(wrong, s)
		}
	}
	for _, s := range append(wrong, "(cut (pair x y) (fst k)) ", "(cut (pair x y) (fst k)", "(cut (fst k) (pair x y))", "(mu k (cut (pair x y) (fst k)))", "value", "name") {
		for _, kind := range []string{"value", "name"} {
			checkNoStep(t, kind, s)
		}
		if value, name, ok := impl.StepBoth(s); ok || value != 0 || name != 0 {
			t.Errorf("StepBoth of %q: %d, %d, %v", s, value, name, ok)
		}
	}
	for _, s := range wrongPrograms() {
		if impl.ValueIs(s) || impl.CovalueIs(s) {
			t.Errorf("%q is a value or a covalue", s)
		}
	}
}

// Statements of the greatest sizes, of which the limits leave out nothing.
func TestStepsOfTheGreatest(t *testing.T) {
	wide := func(head string, name string) string { return tree(head, slices.Repeat([]string{name}, 123)) }
	for s, next := range map[string]string{
		"(cut (pair " + wide("pair", "x") + " y) (fst " + wide("case", "k") + "))":            "(cut " + wide("pair", "x") + " " + wide("case", "k") + ")",
		"(cut (inr " + wide("pair", "x") + ") (case l (snd " + wide("case", "k") + ")))":      "(cut " + wide("pair", "x") + " (snd " + wide("case", "k") + "))",
		"(cut (mu l9 (cut (inl " + wide("pair", "x") + ") l9)) " + wide("case", "m999") + ")": "(cut (inl " + wide("pair", "x") + ") " + wide("case", "m999") + ")",
		"(cut " + around(199, "(inl ", "x", ")") + " (case (snd k) l))":                       "(cut " + around(198, "(inl ", "x", ")") + " (snd k))",
		"(cut (not " + around(198, "(snd ", "k", ")") + ") (neg (inl x)))":                    "(cut (inl x) " + around(198, "(snd ", "k", ")") + ")",
	} {
		checkStep(t, "value", s, next)
		checkStep(t, "name", dualText(s), dualText(next))
	}
}
