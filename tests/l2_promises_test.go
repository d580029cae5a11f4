package tests

import (
	"slices"
	"testing"

	"loop.example/classicalcontrol/impl"
)

// dualOf is the dual of a text that has one.
func dualOf(t *testing.T, s string) string {
	t.Helper()
	dual, ok := impl.ProgramDual(s)
	if !ok {
		t.Fatalf("ProgramDual of %q fails", s)
	}
	return dual
}

// canonOf is the canonical program of a text that has one.
func canonOf(t *testing.T, s string) string {
	t.Helper()
	canon, ok := impl.ProgramCanon(s)
	if !ok {
		t.Fatalf("ProgramCanon of %q fails", s)
	}
	return canon
}

// freeOf are the free names of a program.
func freeOf(t *testing.T, s string) []string {
	t.Helper()
	free, ok := impl.ProgramFree(s)
	if !ok {
		t.Fatalf("ProgramFree of %q fails", s)
	}
	return free
}

func TestPromise10(t *testing.T) {
	dualKinds := map[string]string{"term": "coterm", "coterm": "term", "statement": "statement"}
	for _, s := range somePrograms() {
		kind := impl.ProgramKind(s)
		if dualKinds[kind] == "" {
			t.Fatalf("ProgramKind of %q: %q", s, kind)
		}
		if got := impl.ProgramKind(canonOf(t, s)); got != kind {
			t.Errorf("%q is a %s, its canonical program a %q", s, kind, got)
		}
		if got := impl.ProgramKind(dualOf(t, s)); got != dualKinds[kind] {
			t.Errorf("%q is a %s, its dual a %q", s, kind, got)
		}
	}
}

func TestPromise11(t *testing.T) {
	for _, s := range somePrograms() {
		free := freeOf(t, s)
		if len(once(free)) != len(free) {
			t.Errorf("some of %q are equal", free)
		}
		for _, n := range free {
			if uses := impl.ProgramUses(s, n); uses < 1 {
				t.Errorf("%q is used %d times in %q", n, uses, s)
			}
		}
	}
}

func TestPromise12(t *testing.T) {
	for _, s := range somePrograms() {
		canon := canonOf(t, s)
		if !impl.ProgramAlike(s, canon) || !impl.ProgramAlike(canon, s) {
			t.Errorf("%q is not alike to %q", s, canon)
		}
		if again := canonOf(t, canon); again != canon {
			t.Errorf("ProgramCanon of %q: %q", canon, again)
		}
		if !slices.Equal(freeOf(t, canon), freeOf(t, s)) || impl.ProgramSize(canon) != impl.ProgramSize(s) {
			t.Errorf("%q has not the free names and size of %q", canon, s)
		}
	}
}

func TestPromise13(t *testing.T) {
	alike := 0
	some := somePrograms()
	for i, s := range some {
		for _, other := range append(slices.Clone(some[i:min(i+20, len(some))]), canonOf(t, s)) {
			want := impl.ProgramAlike(s, other)
			if impl.ProgramAlike(other, s) != want || impl.ProgramAlike(dualOf(t, s), dualOf(t, other)) != want {
				t.Errorf("ProgramAlike of %q and %q is %v, but not for both exchanged, or the duals", s, other, want)
			}
			if want && s != other {
				alike++
			}
		}
	}
	if alike < 50 {
		t.Errorf("just %d are alike and not the same", alike)
	}
}

func TestPromise14(t *testing.T) {
	done := 0
	for _, c := range somePuts() {
		s, name, by := c[0], c[1], c[2]
		got, ok := impl.ProgramPut(s, name, by)
		ofDuals, okDuals := impl.ProgramPut(dualOf(t, s), dualOf(t, name), dualOf(t, by))
		if ok != okDuals {
			t.Fatalf("ProgramPut of %q: %v, and of the duals %v", c, ok, okDuals)
		}
		if !ok {
			continue
		}
		done++
		if want := impl.ProgramSize(s) + impl.ProgramUses(s, name)*(impl.ProgramSize(by)-1); impl.ProgramSize(got) != want {
			t.Errorf("ProgramPut of %q has %d atoms, not %d", c, impl.ProgramSize(got), want)
		}
		// Both sides of a cut are exchanged in the dual, and so the order in which names are bound.
		if !impl.ProgramAlike(dualOf(t, got), ofDuals) || canonOf(t, dualOf(t, got)) != ofDuals {
			t.Errorf("ProgramPut of %q: %q, and of the duals %q", c, got, ofDuals)
		}
	}
	if done < 500 {
		t.Errorf("just %d results", done)
	}
}

func TestPromise15(t *testing.T) {
	for _, s := range somePrograms() {
		size := impl.ProgramSize(s)
		if size < len(freeOf(t, s)) || size < 1 {
			t.Errorf("%q has %d atoms, and free are %q", s, size, freeOf(t, s))
		}
		if got := impl.ProgramSize(dualOf(t, s)); got != size {
			t.Errorf("%q has %d atoms, its dual %d", s, size, got)
		}
	}
}

func TestPromise16(t *testing.T) {
	for _, s := range somePrograms() {
		free, freeOfDual := freeOf(t, s), freeOf(t, dualOf(t, s))
		for _, n := range append(slices.Concat(fewVariables, fewCovariables, free), "x999", "m000", "z") {
			uses := impl.ProgramUses(s, n)
			if uses < 0 || slices.Contains(free, n) != (uses > 0) {
				t.Errorf("%q is used %d times in %q, and free are %q", n, uses, s, free)
			}
			if ofDual := impl.ProgramUses(dualOf(t, s), dualOf(t, n)); ofDual != uses || slices.Contains(freeOfDual, dualOf(t, n)) != (uses > 0) {
				t.Errorf("%q is used %d times in %q, its dual %d times in the dual", n, uses, s, ofDual)
			}
		}
	}
}

func TestPromise17(t *testing.T) {
	for _, s := range somePrograms() {
		dual := dualOf(t, s)
		if dual == s && impl.ProgramKind(s) != "statement" {
			t.Errorf("%q is its own dual", s)
		}
		if twice := dualOf(t, dual); twice != s {
			t.Errorf("the dual of the dual of %q: %q", s, twice)
		}
	}
}
