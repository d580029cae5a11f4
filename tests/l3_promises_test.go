package tests

import (
	"slices"
	"strings"
	"testing"

	"loop.example/classicalcontrol/impl"
)

// typingOf is the principal typing of a text that has one.
func typingOf(t *testing.T, s string) impl.Typing {
	t.Helper()
	y, ok := impl.TypeOf(s)
	if !ok {
		t.Fatalf("TypeOf of %q fails", s)
	}
	return y
}

// dualTypingOf is the dual of a typing that has one.
func dualTypingOf(t *testing.T, y impl.Typing) impl.Typing {
	t.Helper()
	dual, ok := impl.TypeDual(y)
	if !ok {
		t.Fatalf("TypeDual of %q fails", y)
	}
	return dual
}

// ordered puts the names of a typing, and their types with them, in an order in which all of them are.
func ordered(y impl.Typing, names []string) impl.Typing {
	turned := impl.Typing{Type: y.Type}
	for _, n := range names {
		if i := slices.Index(y.Names, n); i >= 0 {
			turned.Names = append(turned.Names, n)
			turned.Types = append(turned.Types, y.Types[i])
		}
	}
	return turned
}

func TestPromise18(t *testing.T) {
	for _, s := range typable() {
		y := typingOf(t, s)
		if !has(s, y) {
			t.Errorf("TypeHas of %q does not hold for %q", s, y)
		}
		if canon := canonOf(t, s); !sameTyping(typingOf(t, canon), y) {
			t.Errorf("%q has not the typing %q of %q", canon, y, s)
		}
		if !impl.TypeInstance(y, y) {
			t.Errorf("%q is no instance of itself", y)
		}
		if !slices.Equal(y.Names, freeOf(t, s)) || len(y.Types) != len(y.Names) || (y.Type == "") != (impl.ProgramKind(s) == "statement") {
			t.Errorf("%q is no typing of %q", y, s)
		}
	}
}

func TestPromise19(t *testing.T) {
	turned := 0
	for _, s := range typable() {
		dual := dualOf(t, s)
		y, own := dualTypingOf(t, typingOf(t, s)), typingOf(t, dual)
		if !has(dual, y) {
			t.Errorf("%q has not the dual typing %q", dual, y)
		}
		inOrder := ordered(y, own.Names)
		if len(inOrder.Names) != len(y.Names) || !impl.TypeInstance(own, inOrder) || !impl.TypeInstance(inOrder, own) {
			t.Errorf("%q of the dual %q does not come from %q", inOrder, dual, own)
		}
		if !sameTyping(inOrder, y) {
			turned++
		}
	}
	if turned < 50 {
		t.Errorf("just %d duals have their names in another order", turned)
	}
}

func TestPromise20(t *testing.T) {
	m := &maker{state: 35}
	untyped := 0
	for _, s := range slices.Concat(typable(), somePrograms(), inThemselves(), m.programs(500, 4)) {
		want := impl.TypeIs(s)
		if impl.TypeIs(dualOf(t, s)) != want || impl.TypeIs(canonOf(t, s)) != want {
			t.Errorf("TypeIs of %q is %v, but not of its dual, or its canonical program", s, want)
		}
		if !want {
			untyped++
			continue
		}
		y := typingOf(t, s)
		for _, of := range y.Types {
			if !impl.FormulaValid(of) {
				t.Errorf("%q of %q is no formula", of, s)
			}
		}
		if y.Type != "" && !impl.FormulaValid(y.Type) {
			t.Errorf("%q of %q is no formula", y.Type, s)
		}
	}
	if untyped < 100 {
		t.Errorf("just %d programs have no typing", untyped)
	}
}

func TestPromise21(t *testing.T) {
	m := &maker{state: 36}
	more, other := 0, 0
	for _, p := range m.typedPrograms(400, 5) {
		if !impl.TypeHas(p.text, p.names, p.types, p.whole) {
			t.Errorf("TypeHas of %q with %q, %q and %q does not hold", p.text, p.names, p.types, p.whole)
			continue
		}
		y, given := typingOf(t, p.text), p.ownTyping()
		if !slices.Equal(y.Names, given.Names) || !impl.TypeInstance(y, given) {
			t.Errorf("%q of %q does not come from %q", given, p.text, y)
		}
		if len(p.names) > len(y.Names) {
			more++
		}
		if !impl.TypeInstance(given, y) {
			other++
		}
	}
	// Types of any kind, which mostly are not those of the program.
	holds := 0
	for _, s := range typable() {
		y := typingOf(t, s)
		given := m.replaced(y)
		if m.below(3) == 0 && len(given.Types) > 0 {
			given.Types[m.below(len(given.Types))] = m.formula(1+m.below(3), fewNames)
		}
		if !formulasOnly(given) {
			continue
		}
		got := has(s, given)
		if got != impl.TypeInstance(y, given) {
			t.Errorf("TypeHas of %q with %q is %v, and its own typing is %q", s, given, got, y)
		}
		if got {
			holds++
		}
	}
	if more < 100 || other < 100 || holds < 100 {
		t.Errorf("just %d with names beyond, %d that come just one way, and %d of any kind", more, other, holds)
	}
}

func TestPromise22(t *testing.T) {
	done := 0
	for _, s := range append(typable(), "(inl "+around(28, "(not (neg ", "x", "))")+")", "(inl "+around(28, "(not (neg ", "(not k)", "))")+")") {
		y := typingOf(t, s)
		put := replaceLetters(y, func(name string) string {
			switch {
			case name == "a":
				return "(- b)"
			case len(name) == 1:
				return "c"
			}
			return name
		})
		if !formulasOnly(put) {
			continue
		}
		done++
		if !impl.TypeInstance(y, put) {
			t.Errorf("%q does not come from %q", put, y)
		}
		if !has(s, put) {
			t.Errorf("TypeHas of %q does not hold for %q", s, put)
		}
	}
	if done < 500 {
		t.Errorf("just %d typings", done)
	}
}

func TestPromise23(t *testing.T) {
	m := &maker{state: 37}
	some := []impl.Typing{typing(""), typing("a"), typing("x", "a", "x", "b", ""), typing("k000", nots(59, "a"), chain("*", append(numbered(29), "(- a)")))}
	for range 300 {
		some = append(some, m.typing(20))
	}
	for _, s := range typable() {
		some = append(some, typingOf(t, s))
	}
	for _, y := range some {
		dual := dualTypingOf(t, y)
		if len(y.Names) > 0 && sameTyping(dual, y) {
			t.Errorf("%q is its own dual", y)
		}
		if twice := dualTypingOf(t, dual); !sameTyping(twice, y) {
			t.Errorf("the dual of the dual of %q: %q", y, twice)
		}
	}
}

func TestPromise24(t *testing.T) {
	m := &maker{state: 38}
	holds, fails := 0, 0
	for range 1500 {
		general := m.typing(7)
		for _, y := range []impl.Typing{general, m.replaced(general), m.typing(3)} {
			want := impl.TypeInstance(general, y)
			if impl.TypeInstance(dualTypingOf(t, general), dualTypingOf(t, y)) != want {
				t.Errorf("TypeInstance of %q and %q is %v, but not of both duals", general, y, want)
			}
			if !want {
				fails++
				continue
			}
			holds++
			if !impl.TypeInstance(y, y) {
				t.Errorf("%q is no instance of itself", y)
			}
		}
	}
	if holds < 1000 || fails < 1000 {
		t.Errorf("TypeInstance holds just %d times, and fails %d times", holds, fails)
	}
}

func TestPromise25(t *testing.T) {
	valid, many := 0, 0
	for _, s := range typable() {
		left, right, ok := impl.TypeSequent(s)
		if !ok {
			t.Fatalf("TypeSequent of %q fails", s)
		}
		if len(left)+len(right) > 12 {
			many++
			continue
		}
		if letters, ok := impl.SequentFails(left, right); ok {
			t.Errorf("%q and %q of %q fail in %q", left, right, s, letters)
		}
		if len(formulaLetters(strings.Join(append(slices.Clone(left), right...), " "))) <= 10 {
			valid++
			if !impl.SequentValid(left, right) {
				t.Errorf("%q and %q of %q are not valid", left, right, s)
			}
		}
	}
	if valid < 300 || many == 0 {
		t.Errorf("just %d sequents are valid, and %d have too many formulas", valid, many)
	}
}
