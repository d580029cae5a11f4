package impl

import (
	"reflect"
	"testing"
)

// Through the functions a machine and its statement always end alike, or are stuck with what is no variable: what is compared is seen here.
func TestEndsAlike(t *testing.T) {
	for _, c := range []struct {
		end, shape, statement string
		want                  bool
	}{
		{"", "x", "(cut x m99)", true}, {"", "fun", "(cut (not (fst l)) m99)", true}, {"", "(both x fun)", "(cut (pair x (not l)) m99)", true},
		{"k", "x", "(cut x k)", true}, {"l0", "fun", "(cut (not (neg (inl x))) l0)", true},
		// Another covariable.
		{"", "x", "(cut x k)", false}, {"", "x", "(cut x m9)", false}, {"k", "x", "(cut x m99)", false}, {"k", "x", "(cut x l)", false}, {"k", "x", "(cut x k0)", false},
		// Another shape, or none.
		{"", "x", "(cut y m99)", false}, {"k", "x", "(cut x0 k)", false}, {"", "fun", "(cut x m99)", false}, {"", "x", "(cut (not k) m99)", false}, {"", "(both x y)", "(cut (pair y x) m99)", false}, {"", "(both x fun)", "(cut (pair x y) m99)", false},
		{"", "x", "(cut (inl x) m99)", false}, {"", "", "(cut (inl x) m99)", false}, {"", "(both x y)", "(cut (pair x (inl y)) m99)", false}, {"k", "x", "(cut (mu l (cut x l)) k)", false},
		// One of both is stuck.
		{"", "x", "(cut x (neg y))", false}, {"k", "x", "(cut x (fst k))", false}, {"stuck", "x", "(cut x m99)", false}, {"stuck", "x", "(cut x k)", false},
		// Both are, with a variable or with what is none.
		{"stuck", "x", "(cut x (neg (pair y (not m99))))", true}, {"stuck", "x0", "(cut x0 (snd m99))", true}, {"stuck", "y", "(cut x (fst k))", false}, {"stuck", "fun", "(cut x (fst k))", false},
		{"stuck", "fun", "(cut (not k) (fst l))", false}, {"stuck", "(both x y)", "(cut (pair x y) (neg z))", false}, {"stuck", "fun", "(cut (not k) l)", false},
	} {
		if got := endsAlike(Run{c.end, c.shape, 1}, mustRead(t, c.statement)); got != c.want {
			t.Errorf("%q with %q ends as %q: %v", c.end, c.shape, c.statement, got)
		}
	}
	for _, s := range []string{"x", "m99", "(pair x y)", "(case k l)", "(mu k (cut x k))"} {
		if endsAlike(Run{"", "x", 1}, mustRead(t, s)) {
			t.Errorf("%q ends as a machine", s)
		}
	}
}

// The length of a shape is that of its text, as far as it is counted.
func TestCouplesCountShapes(t *testing.T) {
	short, long := result(mention{name{'x', "00"}}), result(&closure{})
	some := []result{short, long, newCouple(short, long), newCouple(newCouple(long, short), short)}
	for range 9 {
		some = append(some, newCouple(some[len(some)-1], some[len(some)-3]))
	}
	for _, v := range some {
		if got := len(v.shapeText()); got != v.shapeBytes() {
			t.Errorf("a shape of %d bytes counts as %d", got, v.shapeBytes())
		}
	}
	v := short
	for range 1000 {
		v = newCouple(v, v)
		if v.shapeBytes() > TextMax+1 || v.shapeBytes() <= len(shapeOfFunc) {
			t.Fatalf("a shape counts as %d", v.shapeBytes())
		}
	}
	if v.shapeBytes() != TextMax+1 {
		t.Errorf("a very long shape counts as %d", v.shapeBytes())
	}
}

// Stacks and environments are shared by all that go on with them, and none of them changes what it goes on with.
func TestMovesKeepStacksAndEnvironments(t *testing.T) {
	for _, s := range []string{
		"(app (catch k (lam x (throw k (lam y x)))) z)", "(catch k (both (left (catch k (throw k (both x y)))) (throw k z)))", "(app (lam z (left (app z (both x y)))) (catch k (lam x (throw k (lam y x)))))",
		"(app (app (lam x (lam y (both x (app x y)))) (lam x (right (both x x)))) z)", "(app (lam x (app x x)) (catch k (lam y (throw k y))))",
	} {
		m := mustReadSource(t, s)
		e := &evaluator{term: m, stack: &frame{kind: emptyStack}}
		type before struct {
			stack       *frame
			env         *environment
			frame       frame
			environment environment
		}
		var seen []before
		for moves := 0; moves < 60; moves++ {
			b := before{stack: e.stack, env: e.env, frame: *e.stack}
			if e.env != nil {
				b.environment = *e.env
			}
			seen = append(seen, b)
			if !e.move() {
				break
			}
		}
		for _, b := range seen {
			if *b.stack != b.frame || b.env != nil && *b.env != b.environment {
				t.Errorf("a move of %q changes a stack or an environment", s)
			}
		}
		if !reflect.DeepEqual(m, mustReadSource(t, s)) {
			t.Errorf("moves change %q", s)
		}
		if e.stack == nil {
			t.Errorf("%q ends without a stack", s)
		}
	}
}

// A machine that has ended makes no move, and stays as it is.
func TestNoMoveAtTheEnd(t *testing.T) {
	for s, end := range map[string]string{"x": "", "(throw k x)": "k", "(app x y)": stuckAtTop, "(left (lam x x))": stuckAtTop, "(both x y)": ""} {
		e := &evaluator{term: mustReadSource(t, s), stack: &frame{kind: emptyStack}}
		for e.move() {
		}
		stack, value := e.stack, e.value.shapeText()
		for range 3 {
			if e.move() || e.stack != stack || e.value.shapeText() != value || e.end() != end {
				t.Errorf("%q goes on behind its end %q", s, e.end())
			}
		}
	}
}
