package impl

import (
	"errors"
	"reflect"
	"strings"
	"testing"
)

func mustReadSource(t *testing.T, s string) source {
	t.Helper()
	m, ok := readSource(s)
	if !ok {
		t.Fatalf("%q is no source term", s)
	}
	return m
}

// Functions just tell that a text is no source term; which atom is wrong is seen where it is made.
func TestWrongAtomsAreFound(t *testing.T) {
	for s, want := range map[string]string{
		"k": "k", "x1234": "x1234", "x-": "x-", "(lam k x)": "k", "(catch x1 x)": "x1", "(throw 9 x)": "9", "(throw l k7)": "k7",
		"(x)": "x", "(lam x)": "lam", "(app x y z)": "app", "(left x y)": "left", "(pair x y)": "pair", "(fst x)": "fst", "(lam (x) x)": "", "((lam) x x)": "",
		"(app (left (lam x (both x k))) y)": "k", "(both x (right (throw k (catch y x))))": "y", "(catch k (throw k (left (app x w))))": "w", "(app (left m) (right x))": "m", "(app (left x) (right m))": "m",
	} {
		p, ok := readText(s)
		if !ok {
			t.Fatalf("%q is no text", s)
		}
		_, err := makeSource(p)
		var wrong wrongAtom
		if !errors.As(err, &wrong) || wrong.atom != want || !strings.HasSuffix(wrong.Error(), `"`+want+`"`) {
			t.Errorf("the error of %q: %v", s, err)
		}
		if m, ok := readSource(s); ok || m != nil {
			t.Errorf("readSource of %q: %v", s, m)
		}
	}
	// Both parts can be wrong.
	p, _ := readText("(app (lam k x) (throw k (catch z y)))")
	if _, err := makeSource(p); err == nil || !strings.Contains(err.Error(), `"k"`) || !strings.Contains(err.Error(), `"z"`) {
		t.Errorf("the error of both parts: %v", err)
	}
	p, _ = readText("(app (lam x x) (throw k (catch k y)))")
	if _, err := makeSource(p); err != nil {
		t.Errorf("the error of a source term: %v", err)
	}
}

// Later chapters go on with source terms, and with programs, as they are made.
func TestMadeSources(t *testing.T) {
	x, k := name{'x', ""}, name{'k', "0"}
	for s, want := range map[string]source{
		"x":                     mention{x},
		"(lam x x)":             lambda{x, one{mention{x}}},
		"(app x (left x))":      application{two{mention{x}, leftPart{one{mention{x}}}}},
		"(both (right x) x)":    both{two{rightPart{one{mention{x}}}, mention{x}}},
		"(catch k0 (lam x x))":  catch{k, one{lambda{x, one{mention{x}}}}},
		"(throw k0 (both x x))": throw{k, one{both{two{mention{x}, mention{x}}}}},
	} {
		m := mustReadSource(t, s)
		if !reflect.DeepEqual(m, want) {
			t.Errorf("%q was made as %#v", s, m)
		}
		p := programOf(m)
		for range 2 {
			if made := canonical(p); !reflect.DeepEqual(made, mustRead(t, made.text())) || canonical(programOf(m)).text() != made.text() {
				t.Errorf("the program of %q was made as %#v", s, made)
			}
		}
		if !reflect.DeepEqual(m, want) {
			t.Errorf("%q became %#v", s, m)
		}
	}
}
