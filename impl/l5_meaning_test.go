package impl

import "testing"

// Elements are just counted to one above SetMax, as there may be more than there are integers.
func TestElementsOfGreatTypes(t *testing.T) {
	for n := 1; n <= lettersMax; n++ {
		typer, c := newTyper(), newCounter(n)
		for _, sign := range []string{"*", "+"} {
			of, want := typer.givenLetter("a"), n
			for range 200 {
				if got := c.elements(of); got != want || c.known(of) != (want <= SetMax) {
					t.Errorf("%d elements, not %d", got, want)
				}
				of = typer.made(sign, of, of)
				want = min(map[string]int{"*": want * want, "+": want + want}[sign], SetMax+1)
			}
		}
		of := typer.unknown()
		for range 200 {
			of = typer.made("-", of)
		}
		if got := c.elements(of); got != SetMax+1 {
			t.Errorf("%d elements of nots", got)
		}
	}
	for n, want := range map[int]int{0: 1, 1: 2, 8: 256, 9: SetMax + 1, 62: SetMax + 1, 63: SetMax + 1, 64: SetMax + 1, SetMax: SetMax + 1, SetMax + 1: SetMax + 1} {
		if got := powerOfTwo(n); got != want {
			t.Errorf("2 to the power of %d is %d", n, got)
		}
	}
}

// A bit is found once, and just if it is asked for.
func TestBitsAreFoundOnce(t *testing.T) {
	asked := map[int]int{}
	b := &bits{find: func(element int) bool {
		asked[element]++
		return element%3 == 0
	}}
	for range 3 {
		for element := 0; element < SetMax; element += 2 {
			if got := b.at(element); got != (element%3 == 0) {
				t.Errorf("the bit at %d is %v", element, got)
			}
		}
	}
	for element := range SetMax {
		if asked[element] != 1-element%2 {
			t.Errorf("the bit at %d is found %d times", element, asked[element])
		}
	}
}

// What is remembered is bounded, and what is forgotten is found again, with ids of its own.
func TestMeanersForget(t *testing.T) {
	m := newMeaner(newCounter(2), nil)
	ids := map[int]int{}
	for round := range 2 {
		for number := range rememberMax + 1000 {
			b := m.bitsOfNumber(number)
			ids[b.id]++
			if b.at(0) != (number%2 == 1) || b.at(3) != (number>>3&1 == 1) {
				t.Fatalf("the bits of %d are wrong in the round %d", number, round)
			}
			odd := m.answered(keyOf(1, number), func() bool { return number%2 == 1 })
			if odd != (number%2 == 1) {
				t.Fatalf("the answer for %d is wrong in the round %d", number, round)
			}
			if len(m.lists) > rememberMax || len(m.answers) > rememberMax {
				t.Fatalf("%d lists and %d answers are remembered", len(m.lists), len(m.answers))
			}
		}
	}
	if len(ids) <= rememberMax+1000 || m.ids != len(ids) {
		t.Errorf("just %d ids", len(ids))
	}
	if again := m.bitsOfNumber(7); m.bitsOfNumber(7) != again {
		t.Errorf("the bits of 7 are not remembered")
	}
}

// Keys tell apart what they are made of.
func TestKeysAreApart(t *testing.T) {
	seen := map[string]bool{}
	for place := -2; place < 30; place++ {
		seen[keyOf(place)] = true
		for a := range 30 {
			seen[keyOf(place, a)] = true
			for b := range 30 {
				seen[keyOf(place, a, b)] = true
			}
		}
	}
	if len(seen) != 32*(1+30+900) {
		t.Errorf("just %d keys", len(seen))
	}
}
