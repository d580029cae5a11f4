package impl

import (
	"slices"
	"testing"
)

// No program has as many letters as there are, so the last ones are tested where they are made.
func TestNthLetter(t *testing.T) {
	for n, want := range map[int]string{0: "a", 25: "z", 26: "a1", 51: "z1", 52: "a2", 259: "z9", 260: "a10", 2599: "z99"} {
		if got := nthLetter(n); got != want || !isLetter(got) {
			t.Errorf("letter %d is %q", n, got)
		}
	}
	var letters []string
	for n := range 2600 {
		letters = append(letters, nthLetter(n))
	}
	slices.Sort(letters)
	if len(slices.Compact(letters)) != 2600 {
		t.Errorf("some letters are equal")
	}
}

// Sizes of great types are just counted to one above FormulaMax, as they may be beyond all integers.
func TestMeasuredOfGreatTypes(t *testing.T) {
	typer := newTyper()
	c := typer.unknown()
	for times := range 200 {
		want := min(1<<min(times+1, 20)-1, FormulaMax+1)
		if got, ok := c.measured(); !ok || got != want {
			t.Errorf("doubled %d times: %d, %v", times, got, ok)
		}
		c = typer.made("*", c, c)
	}
	if !typer.agrees() {
		t.Errorf("none of them is in itself")
	}
}

// Types that are in themselves can be joined, and are told afterwards, by any of their parts.
func TestJoinOfTypesInThemselves(t *testing.T) {
	for range 2 {
		typer := newTyper()
		var tops []*class
		for range 3 {
			inner := typer.unknown()
			top := typer.made("-", typer.made("-", inner))
			typer.same(inner, top)
			tops = append(tops, top, inner)
		}
		for _, top := range tops {
			typer.same(tops[0], top)
			typer.same(top, typer.made("-", tops[len(tops)-1]))
		}
		if typer.clash || typer.agrees() {
			t.Errorf("a type that is in itself agrees")
		}
		if _, ok := tops[3].measured(); ok {
			t.Errorf("a type that is in itself has a size")
		}
		if s, ok := writeType(tops[1], map[*class]string{}); ok || s != "" {
			t.Errorf("a type that is in itself is written as %q", s)
		}
	}
}
