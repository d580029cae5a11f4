package impl

import (
	"strings"
	"testing"
)

// No call panics: what a line panics with that is not malformed fails, and one that is malformed does not.
func TestAnswersOfLinesThatPanic(t *testing.T) {
	var none *session
	for line, want := range map[string]string{"show": "no", "dual": "no", "types": "no", "step value": "no", "run name": "no", "set (cut x k)": "no", "source x": "no", "prove (+ a (- a))": "no", "zzz": "what", "": "what", "show ": "what", "set": "what"} {
		if got := none.answer(line); got != want {
			t.Errorf("%q answers %q without a session", line, got)
		}
	}
}

// A malformed line panics with its own type, and no other line does.
func TestMalformedLinesPanic(t *testing.T) {
	panicked := func(line string) (thrown any) {
		defer func() { thrown = recover() }()
		s := &session{firstStatement}
		s.perform(line)
		return nil
	}
	for _, line := range []string{"", " ", "zzz", "set", "dual ", "show x", "Show", " show"} {
		if _, ok := panicked(line).(malformedLine); !ok {
			t.Errorf("%q panics with %v", line, panicked(line))
		}
	}
	for _, line := range []string{"set x", "set ", "dual", "show", "types", "machine k", "step need", "run ", "source ", "prove a"} {
		if thrown := panicked(line); thrown != nil {
			t.Errorf("%q panics with %v", line, thrown)
		}
	}
}

// Each statement that a script comes to is one, and has a dual; where it is none, as in no script, all fails and it stays.
func TestStatementsThatAreNone(t *testing.T) {
	for _, statement := range []string{"", "x", "k", "(cut k x)", "(pair x y)", "(cut x k", strings.Repeat("(inl ", 300)} {
		s := &session{statement}
		lines := []string{"types", "step value", "step name", "run value", "run name", "set (pair x y)"}
		if ProgramKind(statement) == "" {
			lines = append(lines, "dual")
		} else {
			lines = lines[1:]
		}
		for _, line := range lines {
			if got := s.answer(line); got != "no" || s.statement != statement {
				t.Errorf("%q answers %q of %q, and the statement is %q", line, got, statement, s.statement)
			}
		}
		if got := s.answer("show"); got != statement {
			t.Errorf("show answers %q of %q", got, statement)
		}
	}
}

// No statement without free names has a typing, so that none is told just here.
func TestNamesWithTypes(t *testing.T) {
	for want, y := range map[string]Typing{
		"none": {}, "x:a": {Names: []string{"x"}, Types: []string{"a"}}, "x:a; k:(- a)": {Names: []string{"x", "k"}, Types: []string{"a", "(- a)"}},
		"k:(* a b); x:a; m99:c1": {Names: []string{"k", "x", "m99"}, Types: []string{"(* a b)", "a", "c1"}},
	} {
		if got := namesWithTypes(y); got != want {
			t.Errorf("%q is told as %q, not %q", y, got, want)
		}
	}
	s := &session{"(cut (not (tmu x (cut x (neg x)))) (neg (not (tmu x (cut x (neg x))))))"}
	if got := s.answer("types"); got != "no" {
		t.Errorf("types answers %q", got)
	}
}
