package impl

import (
	"strings"
	"testing"
)

// No formula reaches the limits of texts, so they are tested where texts are read.
func TestReadTextLimits(t *testing.T) {
	wide := func(bytes int) string {
		return "(" + strings.Repeat("a ", bytes/2-2) + strings.Repeat("a", 2+bytes%2) + ")"
	}
	nested := func(n int) string { return strings.Repeat("(", n) + "a" + strings.Repeat(")", n) }
	beside := func(n int) string { return "(a " + nested(n-1) + " " + nested(n-1) + ")" }
	for s, want := range map[string]bool{
		wide(TextMax - 1):              true,
		wide(TextMax):                  true,
		wide(TextMax + 1):              false,
		strings.Repeat("a", TextMax):   true,
		strings.Repeat("a", TextMax+1): false,
		strings.Repeat("(", TextMax):   false,
		nested(1):                      true,
		nested(200):                    true,
		nested(201):                    false,
		beside(200):                    true,
		beside(201):                    false,
		strings.Repeat("(- ", 200) + "a" + strings.Repeat(")", 200): true,
		strings.Repeat("(- ", 201) + "a" + strings.Repeat(")", 201): false,
	} {
		if _, ok := readText(s); ok != want {
			t.Errorf("readText of %d bytes, %.20q: %v", len(s), s, ok)
		}
	}
	if len(wide(TextMax)) != TextMax || len(wide(TextMax+1)) != TextMax+1 {
		t.Errorf("wide makes texts of other lengths")
	}
}

func TestReadTextShapes(t *testing.T) {
	for s, want := range map[string]bool{
		"a": true, "(a)": true, "((a))": true, "*+-": true, "07az": true, "(pair x (mu k0 y))": true, "((a b) c)": true,
		"": false, " ": false, "()": false, "(a )": false, "( a)": false, "(a  b)": false, "(a b": false, "a b": false, "a)": false, "(a)b": false, "a(b)": false, "((a)(b))": false, "A": false, "(a\tb)": false, "a\xc3\xa9": false,
	} {
		p, ok := readText(s)
		if ok != want || !ok && (p.atom != "" || len(p.parts) != 0) {
			t.Errorf("readText of %q: %v, %v", s, p, ok)
		}
	}
}

func TestReadTextBytes(t *testing.T) {
	for b := range 256 {
		want := strings.IndexByte("abcdefghijklmnopqrstuvwxyz0123456789*+-", byte(b)) >= 0
		for _, s := range []string{string([]byte{byte(b)}), string([]byte{'a', byte(b)}), string([]byte{'(', byte(b), ')'})} {
			if _, ok := readText(s); ok != want {
				t.Errorf("readText of %q: %v", s, ok)
			}
		}
	}
}
