package impl

import (
	"reflect"
	"strings"
	"testing"
)

func mustReadSequent(t *testing.T, left []string, right []string) sequent {
	t.Helper()
	q, ok := readSequent(left, right)
	if !ok {
		t.Fatalf("%q and %q are no sequent", left, right)
	}
	return q
}

// manyTimes makes a list of so many equal formulas.
func manyTimes(count int, f string) []string {
	var list []string
	for range count {
		list = append(list, f)
	}
	return list
}

func within(count int, ahead string, s string, behind string) string {
	return strings.Repeat(ahead, count) + s + strings.Repeat(behind, count)
}

// However many branches there may be, few rules are used; what is told no more use of them ends at once.
func TestSearchesEndSoon(t *testing.T) {
	or, and := within(29, "(+ a ", "a", ")"), within(29, "(* a ", "a", ")")
	for _, c := range [][2][]string{
		{manyTimes(11, or), {"b"}}, {manyTimes(11, or), {"(+ b (- b))"}}, {{"b"}, manyTimes(11, and)}, {{"c"}, append(manyTimes(10, and), "(+ b (- b))")}, {manyTimes(12, or), nil}, {nil, manyTimes(12, and)}, {manyTimes(6, or), manyTimes(6, and)},
		{manyTimes(11, within(59, "(- ", "a", ")")), {"b"}}, {manyTimes(11, and), {"b"}}, {{"b"}, manyTimes(11, or)},
	} {
		r := &search{}
		_, ok := r.prove(newGoal(mustReadSequent(t, c[0], c[1])))
		if ok || r.rules > 1+2*rulesMax {
			t.Errorf("%d rules are used for %q and %q: %v", r.rules, c[0], c[1], ok)
		}
	}
}

// A proof that is a program has at least 3 atoms for each rule, so that none is given up too early.
func TestRulesMax(t *testing.T) {
	if rulesMax < 100 || rulesMax*3 > ProgramMax {
		t.Errorf("rulesMax is %d", rulesMax)
	}
	r := &search{}
	for n := 1; n <= rulesMax+3; n++ {
		if got := r.use(); got != (n <= rulesMax) || r.rules != n {
			t.Errorf("rule %d: %v", n, got)
		}
	}
	// What has used them all proves nothing more.
	if _, ok := r.prove(newGoal(mustReadSequent(t, []string{"a"}, []string{"a"}))); ok {
		t.Errorf("a search goes on behind its last rule")
	}
}

// Both branches of a rule go on with one goal, so none of them may change it or share what it adds.
func TestGoalsDoNotChange(t *testing.T) {
	q := mustReadSequent(t, []string{"a", "(* a b)", "c"}, []string{"(+ a b)", "d"})
	g := newGoal(q)
	for range 5 {
		g, _ = g.with(onLeft, letter("e"))
		g, _ = g.with(onRight, letter("f"))
		for _, s := range []side{onLeft, onRight} {
			before := goal{given: g.given}
			for i := range g.sides {
				before.sides[i] = append([]named(nil), g.sides[i]...)
			}
			first, x := g.with(s, letter("x"))
			second, y := g.with(s, opposite{letter("y")})
			third := g.without(s, 0)
			last := len(g.sides[s])
			if first.sides[s][last].text != "x" || second.sides[s][last].text != "(- y)" || len(third.sides[s]) != last-1 || third.sides[s][0].name != g.sides[s][1].name {
				t.Errorf("%v, %v and %v of %v", first, second, third, g)
			}
			if first.sides[s][last].name != x || second.sides[s][last].name != y || x.isVariable() != (s == onLeft) {
				t.Errorf("the new names of %v are %v and %v", g, x, y)
			}
			if !reflect.DeepEqual(g, before) {
				t.Errorf("%v became %v", before, g)
			}
		}
	}
}

// The names of a goal are all different, whatever was added and taken away.
func TestNewNamesAreNew(t *testing.T) {
	for _, c := range [][2][]string{{nil, nil}, {manyTimes(12, "a"), nil}, {nil, manyTimes(12, "a")}, {manyTimes(11, "a"), {"b"}}, {{"a"}, manyTimes(11, "b")}, {manyTimes(6, "a"), manyTimes(6, "b")}} {
		g := newGoal(mustReadSequent(t, c[0], c[1]))
		seen := map[name]bool{}
		for _, formulas := range g.sides {
			for _, n := range formulas {
				if seen[n.name] {
					t.Errorf("%v stands twice", n.name)
				}
				seen[n.name] = true
			}
		}
		for i := range 40 {
			s := side(i % 3 % 2)
			next, n := g.with(s, letter("c"))
			if seen[n] {
				t.Errorf("%v is no new name of %v", n, g)
			}
			seen[n] = true
			g = next.without(s, i%len(next.sides[s]))
		}
	}
}

// Proofs come in the order of the goals, whichever is ready first, and a goal without one leaves none in its place.
func TestProveBothInOrder(t *testing.T) {
	goals := map[string]goal{
		"short": newGoal(mustReadSequent(t, []string{"a"}, []string{"a"})),
		"long":  newGoal(mustReadSequent(t, []string{within(50, "(- ", "a", ")")}, []string{"b", "a"})),
		"none":  newGoal(mustReadSequent(t, []string{"a"}, []string{"b"})),
		"late":  newGoal(mustReadSequent(t, []string{within(50, "(- ", "a", ")")}, []string{"b"})),
	}
	for first, g := range goals {
		for second, h := range goals {
			for range 50 {
				r := &search{}
				proofs, ok := r.proveBoth(g, h)
				fails := strings.Contains("none late", first) || strings.Contains("none late", second)
				if ok == fails {
					t.Errorf("proveBoth of %s and %s: %v", first, second, ok)
				}
				if ok && ((proofs[0].text() == "(cut x0 k0)") != (first == "short") || (proofs[1].text() == "(cut x0 k0)") != (second == "short")) {
					t.Errorf("proveBoth of %s and %s: %v", first, second, proofs)
				}
			}
		}
	}
}
