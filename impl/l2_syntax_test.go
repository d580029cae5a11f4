package impl

import (
	"reflect"
	"strings"
	"testing"
)

func nestedInl(n int) program {
	p := name{'x', ""}.leaf()
	for range n {
		p = form{"inl", []program{p}}
	}
	return p
}

func mustRead(t *testing.T, s string) program {
	t.Helper()
	p, ok := readProgram(s)
	if !ok {
		t.Fatalf("%q is no program", s)
	}
	return p
}

// No canonical program exceeds a limit, so that this is told as no program is tested where results are written.
func TestWriteProgramLimits(t *testing.T) {
	half := "(pair " + strings.Repeat("(pair x ", 123) + "x" + strings.Repeat(")", 123) + " x)" // 249 atoms
	whole := form{"pair", []program{mustRead(t, half), mustRead(t, half)}}
	for _, c := range []struct {
		p    program
		want bool
	}{
		{nestedInl(200), true}, {nestedInl(201), false}, {nestedInl(499), false},
		{whole, true}, {form{"inl", []program{whole}}, true}, {form{"inl", []program{form{"inl", []program{whole}}}}, false}, {form{"pair", []program{whole, whole}}, false},
		{variable{name{'x', "999"}}, true}, {variable{name{'x', "1000"}}, false}, {form{"not", []program{covariable{name{'k', "1000"}}}}, false},
	} {
		s, ok := writeProgram(c.p)
		if ok != c.want || ok && s != c.p.text() || !ok && s != "" {
			t.Errorf("writeProgram of %.60q with %d atoms: %.60q, %v", c.p.text(), c.p.size(), s, ok)
		}
	}
}

// A canonical program of too many names has a name of too many bytes: no program has so many.
func TestCanonicalOfTooManyNames(t *testing.T) {
	p := mustRead(t, "(mu l (cut (mu l (cut x l)) l))")
	for tried, want := range map[int]string{0: "(mu k0 (cut (mu k1 (cut x k1)) k0))", 998: "(mu k998 (cut (mu k999 (cut x k999)) k998))", 999: "", 1000: ""} {
		r := newRenamer(p.uses())
		r.counts['k'] = tried
		if s, ok := writeProgram(p.renamed(r, nil)); ok != (want != "") || s != want {
			t.Errorf("behind %d names: %q, %v", tried, s, ok)
		}
	}
}

func TestPutKeepsWhatIsPutInto(t *testing.T) {
	text, by := "(tmu y (cut (pair x y) (case k k)))", "(inl y)"
	p, q := mustRead(t, text), mustRead(t, by)
	for range 2 {
		if s := put(p, name{'x', ""}, q).text(); s != "(tmu x0 (cut (pair (inl y) x0) (case k k)))" {
			t.Errorf("put returned %q", s)
		}
		if s := canonical(p).text(); s != "(tmu x0 (cut (pair x x0) (case k k)))" {
			t.Errorf("canonical returned %q", s)
		}
		if s := p.dual().text(); s != "(mu l (cut (pair x x) (case k l)))" {
			t.Errorf("dual returned %q", s)
		}
		if p.text() != text || q.text() != by {
			t.Errorf("%q became %q, and %q %q", text, p.text(), by, q.text())
		}
	}
}

// Later chapters go on with what is made, not with its text.
func TestMadeProgramsAreThoseRead(t *testing.T) {
	for _, s := range []string{"x", "k", "(cut x k)", "(mu l (cut (pair x y) (case k l)))", "(tmu y (cut (not (fst k)) (neg (inr y))))", "(cut (mu k (cut (inl x) k)) (tmu x (cut x (snd k))))"} {
		p := mustRead(t, s)
		x, k := name{'x', ""}, name{'k', ""}
		for _, made := range []program{p, canonical(p), p.dual(), canonical(p).dual(), put(p, x, mustRead(t, "(mu k (cut (not l) k))")), put(p, k, mustRead(t, "(neg y)")), put(p, x, x.leaf())} {
			if read := mustRead(t, made.text()); !reflect.DeepEqual(made, read) {
				t.Errorf("%q was made as %#v", made.text(), made)
			}
		}
	}
}
