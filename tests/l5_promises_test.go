package tests

import (
	"slices"
	"testing"

	"loop.example/classicalcontrol/impl"
)

func TestPromise33(t *testing.T) {
	m := &maker{state: 56}
	counts := map[string]int{}
	some := slices.Concat(m.formulas(1500, 10, fewNames), someFormulas())
	for _, sets := range greatSets() {
		some = append(some, sets...)
	}
	for _, s := range some {
		for n := 1; n <= 3; n++ {
			size := impl.MeanSize(s, n)
			if size < 0 {
				continue
			}
			for _, name := range fewNames {
				for f, want := range map[string]int{"(* " + s + " " + name + ")": n * size, "(* " + name + " " + s + ")": n * size, "(+ " + s + " " + name + ")": n + size, "(+ " + name + " " + s + ")": n + size, "(- " + s + ")": 1 << min(size, 62)} {
					known := impl.FormulaValid(f) && want <= impl.SetMax
					if !known {
						want = -1
					}
					if got := impl.MeanSize(f, n); got != want {
						t.Errorf("MeanSize of %q with %d: %d, and of %q %d", s, n, size, f, got)
					}
					if known {
						counts[f[:2]]++
					}
				}
			}
		}
	}
	for _, sign := range []string{"(*", "(+", "(-"} {
		if counts[sign] < 1000 {
			t.Errorf("just %v", counts)
		}
	}
}

func TestPromise34(t *testing.T) {
	found := map[int]int{}
	for _, a := range meant() {
		got, _ := a.bit()
		found[got]++
		canon := a
		canon.s = canonOf(t, a.s)
		if again, ok := canon.bit(); !ok || again != got {
			t.Errorf("MeanBit of %q with %q at %d: %d, and of %q %d, %v", a.s, a.types, a.values, got, canon.s, again, ok)
		}
	}
	if len(found) != 2 || found[0] < 500 || found[1] < 500 {
		t.Errorf("just %v", found)
	}
}

// behind asks the same of another statement.
func (a asked) behind(s string) asked {
	a.s = s
	return a
}

func TestPromise35(t *testing.T) {
	steps, fewer := 0, 0
	for _, a := range meant() {
		want, _ := a.bit()
		// All steps that follow are steps, too.
		for range 12 {
			next, ok := impl.StepOf("value", a.s)
			if !ok {
				break
			}
			if len(freeOf(t, next)) < len(freeOf(t, a.s)) {
				fewer++
			}
			got, ok := a.behind(next).bit()
			if !ok || got != want {
				t.Fatalf("MeanBit of %q with %q and %d at %d: %d, and of %q behind %d, %v", a.s, a.types, a.n, a.values, want, next, got, ok)
			}
			steps++
			a.s = next
		}
	}
	if steps < 3000 || fewer < 500 {
		t.Errorf("just %d steps, %d of them to fewer names", steps, fewer)
	}
}

func TestPromise36(t *testing.T) {
	far := 0
	for _, a := range meant() {
		want, _ := a.bit()
		end, steps, ok := impl.RunOf("value", a.s)
		if !ok {
			continue
		}
		if steps > 2 {
			far++
		}
		if got, ok := a.behind(end).bit(); !ok || got != want {
			t.Errorf("MeanBit of %q with %q and %d at %d: %d, and of its end %q %d, %v", a.s, a.types, a.n, a.values, want, end, got, ok)
		}
	}
	if far < 500 {
		t.Errorf("just %d ends that are far", far)
	}
}

func TestPromise37(t *testing.T) {
	lists, longest := 0, 0
	for i, a := range meant() {
		if i%3 > 0 {
			continue
		}
		list, ok := a.list()
		if !ok {
			continue
		}
		lists++
		longest = max(longest, len(list))
		for i, bit := range list {
			if bit != 0 && bit != 1 {
				t.Errorf("MeanList of %q with %q and %d has %d in the place %d", a.s, a.types, a.n, bit, i)
			}
		}
		if first, ok := a.at(make([]int, len(a.names))...).bit(); !ok || len(list) == 0 || list[0] != first {
			t.Errorf("MeanList of %q with %q and %d: %.50v, and MeanBit %d, %v", a.s, a.types, a.n, list, first, ok)
		}
	}
	if lists < 500 || longest < 2000 {
		t.Errorf("just %d lists of up to %d bits", lists, longest)
	}
}

func TestPromise38(t *testing.T) {
	alike, differ := 0, 0
	for i, a := range meant() {
		if i%3 > 0 {
			continue
		}
		list, okList := a.list()
		if len(list) > 600 {
			continue
		}
		others := []string{canonOf(t, a.s), a.dual().s}
		next, ok := impl.StepOf("value", a.s)
		if ok {
			others = append(others, next)
		}
		// A step by name may lead elsewhere.
		if byName, ok := impl.StepOf("name", a.s); ok {
			others = append(others, byName)
		}
		for _, other := range others {
			want := impl.MeanAlike(a.s, other, a.names, a.types, a.n)
			if impl.MeanAlike(other, a.s, a.names, a.types, a.n) != want {
				t.Errorf("MeanAlike of %q and %q with %q and %d is %v, but not of both exchanged", a.s, other, a.types, a.n, want)
			}
			otherList, okOther := a.behind(other).list()
			if want != (okList && okOther && slices.Equal(list, otherList)) {
				t.Errorf("MeanAlike of %q and %q with %q and %d is %v, their lists %.50v and %.50v", a.s, other, a.types, a.n, want, list, otherList)
			}
			if okList && okOther && !want {
				differ++
			}
			if !want || !ok {
				continue
			}
			if _, known := a.behind(next).list(); known && !impl.MeanAlike(next, other, a.names, a.types, a.n) {
				t.Errorf("MeanAlike of %q and %q with %q and %d, but not of %q behind", a.s, other, a.types, a.n, next)
			}
			alike++
		}
	}
	if alike < 500 || differ < 5 {
		t.Errorf("just %d are alike, and %d differ", alike, differ)
	}
}

func TestPromise39(t *testing.T) {
	steps, apart := 0, 0
	for _, d := range meant() {
		// What means something by value has a dual that means something by name.
		a := d.dual()
		want, ok := a.name()
		if !ok {
			t.Fatalf("MeanName of %q with %q and %d at %d fails", a.s, a.types, a.n, a.values)
		}
		// A step by value may lead elsewhere.
		if next, ok := impl.StepOf("value", a.s); ok {
			if got, ok := a.behind(next).name(); ok && got != want {
				apart++
			}
		}
		for range 12 {
			next, ok := impl.StepOf("name", a.s)
			if !ok {
				break
			}
			got, ok := a.behind(next).name()
			if !ok || got != want {
				t.Fatalf("MeanName of %q with %q and %d at %d: %d, and of %q behind %d, %v", a.s, a.types, a.n, a.values, want, next, got, ok)
			}
			steps++
			a.s = next
		}
	}
	if steps < 3000 || apart < 5 {
		t.Errorf("just %d steps, and %d by value lead elsewhere", steps, apart)
	}
}

func TestPromise40(t *testing.T) {
	counts := map[string]int{}
	for i, a := range meant() {
		if i%3 > 0 {
			continue
		}
		list, okList := a.list()
		got, ok := a.count()
		if ok != okList {
			t.Errorf("MeanCount of %q with %q and %d: %v, and MeanList %v", a.s, a.types, a.n, ok, okList)
		}
		if !ok {
			counts["fails"]++
			continue
		}
		// Just half of them, as each list of values has an opposite one, of which the statement means the other bit.
		if got < 0 || got > len(list) || got != count(bitTexts(list), "1") || 2*got != len(list) {
			t.Errorf("MeanCount of %q with %q and %d: %d, and MeanList %.50v", a.s, a.types, a.n, got, list)
		}
		counts["half"]++
	}
	if counts["half"] < 300 || counts["fails"] < 200 {
		t.Errorf("just %v", counts)
	}
}
