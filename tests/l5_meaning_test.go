package tests

import (
	"math"
	"slices"
	"strconv"
	"strings"
	"testing"

	"loop.example/classicalcontrol/impl"
)

func TestMeaningLimitsAreThoseTested(t *testing.T) {
	if impl.SetMax != 300 || impl.ListMax != 5000 {
		t.Errorf("the limits are %d and %d", impl.SetMax, impl.ListMax)
	}
}

// sum makes a sum of so many letters a, which has so many elements for n of 1.
func sum(count int) string {
	return chain("+", slices.Repeat([]string{"a"}, count))
}

// product makes a product of sums.
func product(counts ...int) string {
	var parts []string
	for _, count := range counts {
		parts = append(parts, sum(count))
	}
	return chain("*", parts)
}

// setSizes are formulas with their numbers of elements for n of 1, 2 and 3.
var setSizes = map[string][3]int{
	"a": {1, 2, 3}, "z99": {1, 2, 3}, "(* a b)": {1, 4, 9}, "(* a a)": {1, 4, 9}, "(+ a b)": {2, 4, 6}, "(- a)": {2, 4, 8},
	"(- (* a a))": {2, 16, -1}, "(- (+ a b))": {4, 16, 64}, "(- (- a))": {4, 16, 256}, "(- (- (- a)))": {16, -1, -1}, "(- (- (- (- a))))": {-1, -1, -1},
	"(* (+ a b) (- c))": {4, 16, 48}, "(+ (* a b) (- c))": {3, 8, 17}, "(* a (* b (+ c d)))": {2, 16, 54}, "(+ a (- (* b (- c))))": {5, 258, -1}, "(- (* a (- b)))": {4, 256, -1},
}

// nextToMax is a formula of 299 elements for n of 1.
var nextToMax = "(* " + sum(13) + " (+ " + product(2, 11) + " a))"

// greatSets are formulas of just 300 elements for n, and others of as many or more.
func greatSets() map[int][]string {
	third := "(* a (+ (* (- a) (- a)) (* (+ a a) (+ a a))))"
	second := product(15, 5)
	first := product(5, 5, 4, 3)
	return map[int][]string{
		1: {first, "(+ " + nextToMax + " a)", "(+ a " + first + ")", "(+ " + first + " a)", "(* " + sum(7) + " (+ a " + product(6, 7) + "))", "(* a (+ a " + first + "))"},
		2: {second, "(+ a " + second + ")", "(+ " + second + " a)", product(7, 11), product(19, 4)},
		3: {third, "(* (+ a a) (+ (* (- a) (+ a a)) a))", "(+ a " + third + ")", "(+ " + third + " a)", "(* (- a) (* (- a) (+ a a)))", product(17, 2)},
	}
}

// hugeSets are formulas with far more elements than there are integers, whatever n; what is counted with a wrap may come to few, or none.
func hugeSets() []string {
	some := []string{nots(5, "a"), nots(6, "a"), nots(7, "a"), nots(59, "a"), "(* " + nots(5, "a") + " a)", "(* a " + nots(6, "a") + ")", "(+ " + nots(7, "a") + " a)",
		"(- " + chain("+", slices.Repeat([]string{"a"}, 9)) + ")", "(- (* " + product(8) + " " + product(8) + "))", "(- (* " + product(4, 4) + " " + product(4) + "))",
		chain("*", slices.Repeat([]string{"(- (- (+ a a)))"}, 8)), chain("+", slices.Repeat([]string{"(- (- (- (- a))))"}, 8)), chain("*", slices.Repeat([]string{"(- (- (- (- a))))"}, 10))}
	for count := 8; count < 30; count++ {
		some = append(some, "(- "+sum(count+1)+")", "(- (- "+chain("*", slices.Repeat([]string{"(+ a a)"}, count/4+2))+"))")
	}
	return some
}

func TestMeanSize(t *testing.T) {
	for s, sizes := range setSizes {
		for i, want := range sizes {
			if got := impl.MeanSize(s, i+1); got != want {
				t.Errorf("MeanSize of %q with %d: %d, not %d", s, i+1, got, want)
			}
		}
	}
	for n, some := range greatSets() {
		found := map[int]int{}
		for _, s := range some {
			want := setSize(s, n)
			found[want]++
			if want > 300 {
				want = -1
			}
			if got := impl.MeanSize(s, n); got != want || !isFormula(s) {
				t.Errorf("MeanSize of %q with %d: %d, not %d", s, n, got, want)
			}
		}
		if found[300] == 0 || found[300+n] == 0 {
			t.Errorf("of %d elements there are just %v", 300, found)
		}
	}
	for _, s := range hugeSets() {
		for n := 1; n <= 3; n++ {
			if got := impl.MeanSize(s, n); !impl.FormulaValid(s) || got != -1 {
				t.Errorf("MeanSize of %q with %d: %d", s, n, got)
			}
		}
	}
}

func TestMeanSizeOfMany(t *testing.T) {
	m := &maker{state: 52}
	known := 0
	for _, s := range slices.Concat(m.formulas(1500, 12, fewNames), m.formulas(500, 60, fewNames), someFormulas()) {
		for n := 1; n <= 3; n++ {
			want := setSize(s, n)
			if want > 300 {
				want = -1
			} else {
				known++
			}
			if got := impl.MeanSize(s, n); got != want {
				t.Errorf("MeanSize of %q with %d: %d, not %d", s, n, got, want)
			}
		}
	}
	if known < 1000 {
		t.Errorf("just %d sizes are known", known)
	}
}

// wrongNumbers are none that a letter may have elements.
var wrongNumbers = []int{0, 4, 5, -1, -2, 300, 1<<32 + 1, 1<<33 + 2, math.MinInt, math.MinInt + 1, math.MaxInt}

func TestMeanSizeOfWrongArguments(t *testing.T) {
	for _, s := range append(wrongFormulas(), "", "A", "(- (a))", "(* a)", "x k", "a1234", nots(60, "a"), chain("+", slices.Repeat([]string{"a"}, 31))) {
		for n := range 5 {
			if got := impl.MeanSize(s, n); got != -1 {
				t.Errorf("MeanSize of %q with %d: %d", s, n, got)
			}
		}
	}
	for _, n := range wrongNumbers {
		for _, s := range []string{"a", "(* a b)", "(- a)", "x", "", nots(59, "a")} {
			if got := impl.MeanSize(s, n); got != -1 {
				t.Errorf("MeanSize of %q with %d: %d", s, n, got)
			}
		}
	}
}

// A meaningCase is a statement with names and types, and what it means for n of 2 at each list of values.
type meaningCase struct {
	s     string
	given string // names, each one with its type behind
	want  func(v []int) int
}

// is asks for the bit of a covariable's value at an element.
func is(value int, element int) int { return value >> element & 1 }

// asks makes what is asked of a case.
func (c meaningCase) asks() asked {
	a := asked{s: c.s, n: 2}
	for i, text := range strings.Split(c.given, ", ") {
		name, of, ok := strings.Cut(text, " ")
		if !ok {
			panic("no type in " + c.given + " at " + strconv.Itoa(i))
		}
		a.names = append(a.names, name)
		a.types = append(a.types, of)
	}
	return a
}

var nameCases = []meaningCase{
	{"(cut x k)", "x a, k a", func(v []int) int { return is(v[1], v[0]) }},
	{"(cut x k)", "k a, x a", func(v []int) int { return is(v[0], v[1]) }},
	{"(cut x k)", "y b, x a, l (* a b), k a", func(v []int) int { return is(v[3], v[1]) }},
	{"(cut x k)", "x (* a b), k (* a b)", func(v []int) int { return is(v[1], v[0]) }},
	{"(cut (mu k (cut x k)) l)", "x a, l a", func(v []int) int { return is(v[1], v[0]) }},
	{"(cut x (tmu y (cut y k)))", "x a, k a", func(v []int) int { return is(v[1], v[0]) }},
	// By value, what is bound by mu goes ahead.
	{"(cut (mu k (cut x l)) (tmu y (cut z m)))", "x a, l a, z b, m b", func(v []int) int { return is(v[1], v[0]) }},
	{"(cut (mu k (cut x k)) (tmu y (cut z m)))", "x a, z b, m b", func(v []int) int { return is(v[2], v[1]) }},
	{"(cut (mu k (cut (not k) l)) (tmu y (cut y m)))", "l (- a), m a", func(v []int) int { return is(v[0], v[1]) }},
	{"(cut (mu k (cut z (neg (not k)))) (tmu y (cut y m)))", "z (- (- a)), m a", func(v []int) int { return is(v[0], v[1]) }},
	{"(cut (mu k (cut z (neg (not k)))) (tmu y (cut (pair x y) m)))", "z (- (- a)), x b, m (* b a)", func(v []int) int { return is(v[0], v[2]>>(v[1]*2)&3) }},
	// Names that are bound and also free elsewhere, and that are bound twice.
	{"(cut (mu k (cut x k)) k)", "x a, k a", func(v []int) int { return is(v[1], v[0]) }},
	{"(cut x (tmu x (cut x k)))", "x a, k a", func(v []int) int { return is(v[1], v[0]) }},
	{"(cut (pair x (mu k (cut x (tmu x (cut x k))))) k)", "x a, k (* a a)", func(v []int) int { return is(v[1], v[0]*2+v[0]) }},
	{"(cut (mu k (cut (mu k (cut x k)) (tmu x (cut (inl x) k)))) k)", "x a, k (+ a b)", func(v []int) int { return is(v[1], v[0]) }},
	{"(cut x (tmu y (cut (inr y) (case k (tmu x (cut (pair x y) l))))))", "x a, k b, l (* a a)", func(v []int) int { return is(v[2], v[0]*3) }},
	{"(cut (pair x y) (tmu x (cut x (fst (tmu y (cut (pair y x) k))))))", "x a, y b, k (* a (* a b))", func(v []int) int { return is(v[2], v[0]*4+v[0]*2+v[1]) }},
	{"(cut (pair x y) (tmu x (cut (pair y x) k)))", "x a, y b, k (* b (* a b))", func(v []int) int { return is(v[2], v[1]*4+v[0]*2+v[1]) }},
	{"(cut (not (tmu x (cut x k))) (neg x))", "x a, k a", func(v []int) int { return is(v[1], v[0]) }},
	{"(cut (mu m (cut (not m) (neg x))) (tmu x (cut (pair x y) k)))", "x a, y b, k (* a b)", func(v []int) int { return is(v[2], v[0]*2+v[1]) }},
}

var pairCases = []meaningCase{
	{"(cut (pair x y) k)", "x a, y b, k (* a b)", func(v []int) int { return is(v[2], v[0]*2+v[1]) }},
	{"(cut (pair y x) k)", "x a, y b, k (* b a)", func(v []int) int { return is(v[2], v[1]*2+v[0]) }},
	{"(cut (pair x y) k)", "x a, y (* b b), k (* a (* b b))", func(v []int) int { return is(v[2], v[0]*4+v[1]) }},
	{"(cut (pair x y) k)", "x (* b b), y a, k (* (* b b) a)", func(v []int) int { return is(v[2], v[0]*2+v[1]) }},
	{"(cut (pair x (pair y z)) k)", "x a, y b, z c, k (* a (* b c))", func(v []int) int { return is(v[3], v[0]*4+v[1]*2+v[2]) }},
	{"(cut (pair (pair z y) x) k)", "x a, y b, z c, k (* (* c b) a)", func(v []int) int { return is(v[3], v[2]*4+v[1]*2+v[0]) }},
	{"(cut z (fst k))", "z (* a (* b c)), k a", func(v []int) int { return is(v[1], v[0]/4) }},
	{"(cut z (snd k))", "z (* a (* b c)), k (* b c)", func(v []int) int { return is(v[1], v[0]%4) }},
	{"(cut z (fst k))", "z (* (* b c) a), k (* b c)", func(v []int) int { return is(v[1], v[0]/2) }},
	{"(cut z (snd k))", "z (* (* b c) a), k a", func(v []int) int { return is(v[1], v[0]%2) }},
	{"(cut z (snd (fst k)))", "z (* a (* b c)), k b", func(v []int) int { return is(v[1], v[0]/2%2) }},
	{"(cut z (fst (snd k)))", "z (* (* a b) c), k b", func(v []int) int { return is(v[1], v[0]/2%2) }},
	{"(cut (pair x y) (fst k))", "x a, y b, k a", func(v []int) int { return is(v[2], v[0]) }},
	{"(cut (pair x y) (snd k))", "x a, y b, k b", func(v []int) int { return is(v[2], v[1]) }},
	// The first part goes ahead of the second one.
	{"(cut (pair (mu m0 (cut x l)) (mu m0 (cut y m))) k)", "x a, y a, l a, m a, k (* a a)", func(v []int) int { return is(v[2], v[0]) }},
	{"(cut (pair z (mu m0 (cut y m))) k)", "z a, y a, m a, k (* a a)", func(v []int) int { return is(v[2], v[1]) }},
	{"(cut (pair (mu m0 (cut x l)) z) k)", "x a, z a, l a, k (* a a)", func(v []int) int { return is(v[2], v[0]) }},
	// z asks what both parts mean at all elements of the first one.
	{"(cut (pair (mu l (cut z (neg (not l)))) y) k)", "z (- (- a)), y b, k (* a b)", func(v []int) int { return is(v[0], is(v[2], v[1])+2*is(v[2], 2+v[1])) }},
	{"(cut (pair y (mu l (cut z (neg (not l))))) k)", "z (- (- a)), y b, k (* b a)", func(v []int) int { return is(v[0], v[2]>>(2*v[1])&3) }},
}

// above asks for a bit at an element of a sum: of one name at the first elements, of another one at the others.
func above(count int, element int, first int, last int) int {
	if element < count {
		return is(first, element)
	}
	return is(last, element-count)
}

var sumCases = []meaningCase{
	{"(cut (inl x) k)", "x a, k (+ a b)", func(v []int) int { return is(v[1], v[0]) }},
	{"(cut (inr x) k)", "x b, k (+ a b)", func(v []int) int { return is(v[1], 2+v[0]) }},
	{"(cut z (case k l))", "z (+ a b), k a, l b", func(v []int) int { return above(2, v[0], v[1], v[2]) }},
	// Parts of different sizes.
	{"(cut (inl x) k)", "x a, k (+ a (* b c))", func(v []int) int { return is(v[1], v[0]) }},
	{"(cut (inr x) k)", "x (* b c), k (+ a (* b c))", func(v []int) int { return is(v[1], 2+v[0]) }},
	{"(cut (inl x) k)", "x (* b c), k (+ (* b c) a)", func(v []int) int { return is(v[1], v[0]) }},
	{"(cut (inr x) k)", "x a, k (+ (* b c) a)", func(v []int) int { return is(v[1], 4+v[0]) }},
	{"(cut z (case k l))", "z (+ a (* b c)), k a, l (* b c)", func(v []int) int { return above(2, v[0], v[1], v[2]) }},
	{"(cut z (case k l))", "z (+ (* b c) a), k (* b c), l a", func(v []int) int { return above(4, v[0], v[1], v[2]) }},
	{"(cut z (case (fst k) l))", "z (+ (* b c) a), k b, l a", func(v []int) int {
		if v[0] < 4 {
			return is(v[1], v[0]/2)
		}
		return is(v[2], v[0]-4)
	}},
	// Sums within sums.
	{"(cut (inl (inl x)) k)", "x a, k (+ (+ a (* b b)) c)", func(v []int) int { return is(v[1], v[0]) }},
	{"(cut (inl (inr x)) k)", "x (* b b), k (+ (+ a (* b b)) c)", func(v []int) int { return is(v[1], 2+v[0]) }},
	{"(cut (inr x) k)", "x c, k (+ (+ a (* b b)) c)", func(v []int) int { return is(v[1], 6+v[0]) }},
	{"(cut (inr (inl x)) k)", "x (* b b), k (+ a (+ (* b b) c))", func(v []int) int { return is(v[1], 2+v[0]) }},
	{"(cut (inr (inr x)) k)", "x c, k (+ a (+ (* b b) c))", func(v []int) int { return is(v[1], 6+v[0]) }},
	{"(cut (inr (inr (inr x))) k)", "x d, k (+ a (+ b (+ c d)))", func(v []int) int { return is(v[1], 6+v[0]) }},
	{"(cut z (case (case k l) m))", "z (+ (+ a (* b b)) c), k a, l (* b b), m c", func(v []int) int {
		if v[0] < 6 {
			return above(2, v[0], v[1], v[2])
		}
		return is(v[3], v[0]-6)
	}},
	{"(cut z (case k (case l m)))", "z (+ a (+ (* b b) c)), k a, l (* b b), m c", func(v []int) int {
		if v[0] < 2 {
			return is(v[1], v[0])
		}
		return above(4, v[0]-2, v[2], v[3])
	}},
	// Sums and pairs.
	{"(cut (pair (inr x) y) k)", "x b, y c, k (* (+ a b) c)", func(v []int) int { return is(v[2], (2+v[0])*2+v[1]) }},
	{"(cut (pair y (inr x)) k)", "x b, y c, k (* c (+ a b))", func(v []int) int { return is(v[2], v[1]*4+2+v[0]) }},
	{"(cut (inr (pair x y)) k)", "x b, y c, k (+ a (* b c))", func(v []int) int { return is(v[2], 2+v[0]*2+v[1]) }},
	{"(cut z (fst (case k l)))", "z (* (+ a b) c), k a, l b", func(v []int) int { return above(2, v[0]/2, v[1], v[2]) }},
	{"(cut z (snd (case k l)))", "z (* c (+ a b)), k a, l b", func(v []int) int { return above(2, v[0]%4, v[1], v[2]) }},
	{"(cut (inl x) (case k l))", "x a, k a, l b", func(v []int) int { return is(v[1], v[0]) }},
	{"(cut (inr x) (case k l))", "x b, k a, l b", func(v []int) int { return is(v[2], v[0]) }},
	// z asks what the coterm means at all elements of its part.
	{"(cut (inl (mu m (cut z (neg (not m))))) k)", "z (- (- a)), k (+ a (* b c))", func(v []int) int { return is(v[0], v[1]&3) }},
	{"(cut (inr (mu m (cut z (neg (not m))))) k)", "z (- (- a)), k (+ (* b c) a)", func(v []int) int { return is(v[0], v[1]>>4) }},
	{"(cut (inr (mu m (cut (inr x) m))) k)", "x b, k (+ a (+ c b))", func(v []int) int { return is(v[1], 4+v[0]) }},
	{"(cut (not (case k l)) m)", "k a, l b, m (- (+ a b))", func(v []int) int { return is(v[2], v[0]+4*v[1]) }},
	{"(cut y (neg (inr x)))", "x b, y (- (+ a b))", func(v []int) int { return is(v[1], 2+v[0]) }},
}

var oppositeCases = []meaningCase{
	{"(cut (not k) l)", "k a, l (- a)", func(v []int) int { return is(v[1], v[0]) }},
	{"(cut x (neg y))", "x (- a), y a", func(v []int) int { return is(v[0], v[1]) }},
	{"(cut (not k) (neg x))", "x a, k a", func(v []int) int { return is(v[1], v[0]) }},
	{"(cut (not (fst k)) l)", "k a, l (- (* a b))", func(v []int) int { return is(v[1], []int{0, 3, 12, 15}[v[0]]) }},
	{"(cut (not (snd k)) l)", "k b, l (- (* a b))", func(v []int) int { return is(v[1], []int{0, 5, 10, 15}[v[0]]) }},
	// Opposites of opposites: an element of the first one is known by all bits of it.
	{"(cut x (neg (not k)))", "x (- (- a)), k a", func(v []int) int { return is(v[0], v[1]) }},
	{"(cut (not (neg y)) l)", "y a, l (- (- a))", func(v []int) int { return is(v[1], []int{0b1010, 0b1100}[v[0]]) }},
	{"(cut (not (neg y)) (neg (not k)))", "y a, k a", func(v []int) int { return is(v[1], v[0]) }},
	{"(cut (not (neg y)) (neg x))", "y a, x (- a)", func(v []int) int { return is(v[1], v[0]) }},
	{"(cut x (neg (not (tmu y (cut y k)))))", "x (- (- a)), k a", func(v []int) int { return is(v[0], v[1]) }},
	{"(cut x (neg (not (tmu y (cut (pair y y) k)))))", "x (- (- a)), k (* a a)", func(v []int) int { return is(v[0], is(v[1], 0)+2*is(v[1], 3)) }},
	{"(cut x (neg (pair y (not k))))", "x (- (* a (- b))), y a, k b", func(v []int) int { return is(v[0], v[1]*4+v[2]) }},
}

// checkMeaning holds a list of all values, and the bit at some of them, against what is told.
func checkMeaning(t *testing.T, c meaningCase) {
	t.Helper()
	a := c.asks()
	found := map[int]int{}
	for i, values := range someOf(a) {
		want := c.want(values)
		found[want]++
		if got, ok := a.at(values...).bit(); !ok || got != want {
			t.Fatalf("%d: MeanBit of %q with %q at %d: %d, %v, not %d", i, a.s, a.types, values, got, ok, want)
		}
		if got, ok := a.at(values...).dual().name(); !ok || got != want {
			t.Fatalf("%d: MeanName of the dual of %q with %q at %d: %d, %v, not %d", i, a.s, a.types, values, got, ok, want)
		}
	}
	if found[0] == 0 || found[1] == 0 {
		t.Errorf("%q means just %v", a.s, found)
	}
	var want []int
	for _, values := range a.allValues() {
		want = append(want, c.want(values))
	}
	got, ok := a.list()
	if ok != (len(want) > 0) || !slices.Equal(got, want) {
		t.Errorf("MeanList of %q with %q: %v, %v, not %v", a.s, a.types, got, ok, want)
	}
	if ones, okCount := a.count(); okCount != ok || ones != count(bitTexts(want), "1") {
		t.Errorf("MeanCount of %q with %q: %d, %v, of %v", a.s, a.types, ones, okCount, want)
	}
}

// someOf tells all values of the names, or those of many that are spread, the first and the last ones among them.
func someOf(a asked) [][]int {
	if all := a.allValues(); all != nil && len(all) <= 600 {
		return all
	}
	m := &maker{state: 53}
	var last []int
	for _, count := range a.ranges() {
		last = append(last, count-1)
	}
	some := [][]int{make([]int, len(last)), last}
	for range 400 {
		some = append(some, m.someValues(a).values)
	}
	return some
}

func TestMeaningOfForms(t *testing.T) {
	for _, c := range slices.Concat(nameCases, pairCases, sumCases, oppositeCases) {
		checkMeaning(t, c)
	}
}

// Sums at their first and last elements, with the elements told one by one.
func TestMeaningAtTheEndsOfSums(t *testing.T) {
	for _, c := range []struct {
		s, given string
		values   []int
		want     int
	}{
		{"(cut (inl x) k)", "x (* b c), k (+ (* b c) a)", []int{3, 1 << 3}, 1}, {"(cut (inl x) k)", "x (* b c), k (+ (* b c) a)", []int{3, 1 << 4}, 0}, {"(cut (inl x) k)", "x (* b c), k (+ (* b c) a)", []int{0, 1}, 1},
		{"(cut (inr x) k)", "x a, k (+ (* b c) a)", []int{0, 1 << 4}, 1}, {"(cut (inr x) k)", "x a, k (+ (* b c) a)", []int{0, 1 << 3}, 0}, {"(cut (inr x) k)", "x a, k (+ (* b c) a)", []int{1, 1 << 5}, 1},
		{"(cut (inl x) k)", "x a, k (+ a (* b c))", []int{1, 1 << 1}, 1}, {"(cut (inl x) k)", "x a, k (+ a (* b c))", []int{1, 1<<6 - 1 - 1<<1}, 0},
		{"(cut (inr x) k)", "x (* b c), k (+ a (* b c))", []int{0, 1 << 2}, 1}, {"(cut (inr x) k)", "x (* b c), k (+ a (* b c))", []int{3, 1 << 5}, 1}, {"(cut (inr x) k)", "x (* b c), k (+ a (* b c))", []int{0, 1 << 1}, 0},
		{"(cut z (case k l))", "z (+ (* b c) a), k (* b c), l a", []int{3, 1 << 3, 0}, 1}, {"(cut z (case k l))", "z (+ (* b c) a), k (* b c), l a", []int{4, 0, 1}, 1}, {"(cut z (case k l))", "z (+ (* b c) a), k (* b c), l a", []int{5, 0, 2}, 1},
		{"(cut z (case k l))", "z (+ (* b c) a), k (* b c), l a", []int{3, 7, 3}, 0}, {"(cut z (case k l))", "z (+ (* b c) a), k (* b c), l a", []int{4, 15, 2}, 0},
		{"(cut z (case k l))", "z (+ a (* b c)), k a, l (* b c)", []int{1, 2, 0}, 1}, {"(cut z (case k l))", "z (+ a (* b c)), k a, l (* b c)", []int{2, 0, 1}, 1}, {"(cut z (case k l))", "z (+ a (* b c)), k a, l (* b c)", []int{5, 0, 8}, 1}, {"(cut z (case k l))", "z (+ a (* b c)), k a, l (* b c)", []int{2, 3, 14}, 0},
		{"(cut (inr (inl x)) k)", "x b, k (+ a (+ b c))", []int{1, 1 << 3}, 1}, {"(cut (inr (inr x)) k)", "x c, k (+ a (+ b c))", []int{0, 1 << 4}, 1}, {"(cut (inl (inr x)) k)", "x b, k (+ (+ a b) c)", []int{1, 1 << 3}, 1}, {"(cut (inl (inr x)) k)", "x b, k (+ (+ a b) c)", []int{0, 1 << 1}, 0},
		{"(cut z (case (case k l) m))", "z (+ (+ a b) c), k a, l b, m c", []int{3, 0, 2, 0}, 1}, {"(cut z (case (case k l) m))", "z (+ (+ a b) c), k a, l b, m c", []int{4, 0, 0, 1}, 1}, {"(cut z (case (case k l) m))", "z (+ (+ a b) c), k a, l b, m c", []int{2, 0, 1, 0}, 1}, {"(cut z (case (case k l) m))", "z (+ (+ a b) c), k a, l b, m c", []int{1, 2, 0, 0}, 1},
		{"(cut z (case k (case l m)))", "z (+ a (+ b c)), k a, l b, m c", []int{1, 2, 0, 0}, 1}, {"(cut z (case k (case l m)))", "z (+ a (+ b c)), k a, l b, m c", []int{2, 0, 1, 0}, 1}, {"(cut z (case k (case l m)))", "z (+ a (+ b c)), k a, l b, m c", []int{3, 0, 2, 0}, 1}, {"(cut z (case k (case l m)))", "z (+ a (+ b c)), k a, l b, m c", []int{4, 0, 0, 1}, 1},
	} {
		a := meaningCase{s: c.s, given: c.given}.asks().at(c.values...)
		if got, ok := a.bit(); !ok || got != c.want {
			t.Errorf("MeanBit of %q with %q at %d: %d, %v", a.s, a.types, a.values, got, ok)
		}
	}
}

func TestMeanBitOfMany(t *testing.T) {
	m := &maker{state: 54}
	found := map[int]int{}
	fails, unread, deepest := 0, 0, 0
	check := func(a asked) {
		want, ok, told := a.bitText()
		got, okGot := a.bit()
		switch {
		case okGot != ok || told && got != want || got < 0 || got > 1:
			t.Errorf("MeanBit of %q with %q for %q and %d at %d: %d, %v, not %d, %v", a.s, a.names, a.types, a.n, a.values, got, okGot, want, ok)
		case !ok:
			fails++
		case !told:
			unread++
		default:
			found[want]++
			deepest = max(deepest, nesting(a.s))
		}
	}
	for _, deep := range []int{1, 2, 3, 4, 5} {
		for _, p := range m.typedStatements(150, deep) {
			for _, n := range []int{1, 2, 3} {
				check(m.someValues(p.asked(n)))
				check(m.someValues(asked{s: p.text, names: p.names, types: p.types, n: n}))
			}
		}
	}
	if found[0] < 300 || found[1] < 300 || fails < 300 || deepest < 10 {
		t.Errorf("just %v, %d fail, %d are not told, the deepest one %d", found, fails, unread, deepest)
	}
}

func TestMeanListOfMany(t *testing.T) {
	m := &maker{state: 55}
	lists, fails := 0, 0
	for _, p := range m.typedStatements(300, 3) {
		for _, n := range []int{1, 2, 3} {
			a := p.asked(n)
			all := a.allValues()
			_, known := a.told()
			got, ok := a.list()
			if ok != (known && all != nil) {
				t.Errorf("MeanList of %q with %q and %d: %v", a.s, a.types, a.n, ok)
			}
			if !ok {
				fails++
				if len(got) > 0 {
					t.Errorf("MeanList of %q fails with %v", a.s, got)
				}
				continue
			}
			lists++
			if len(got) != len(all) {
				t.Fatalf("MeanList of %q with %q and %d has %d bits, not %d", a.s, a.types, a.n, len(got), len(all))
			}
			for range 20 {
				i := m.below(len(all))
				if bit, ok := a.at(all[i]...).bit(); !ok || bit != got[i] {
					t.Errorf("MeanList of %q with %q and %d: %d for %d, and MeanBit %d, %v", a.s, a.types, a.n, got[i], all[i], bit, ok)
				}
			}
		}
	}
	if lists < 100 || fails < 100 {
		t.Errorf("just %d lists, and %d fail", lists, fails)
	}
}

// checkNoMeaning holds that nothing is told.
func checkNoMeaning(t *testing.T, a asked) {
	t.Helper()
	if got, ok := a.bit(); ok || got != 0 {
		t.Errorf("MeanBit of %.200q with %.200q for %.200q and %d at %.50v: %d, %v", a.s, a.names, a.types, a.n, a.values, got, ok)
	}
	if got, ok := a.dual().name(); ok || got != 0 {
		t.Errorf("MeanName of the dual of %.200q with %.200q for %.200q and %d at %.50v: %d, %v", a.s, a.names, a.types, a.n, a.values, got, ok)
	}
}

// checkNoList holds that there is no list.
func checkNoList(t *testing.T, a asked) {
	t.Helper()
	if got, ok := a.list(); ok || len(got) > 0 {
		t.Errorf("MeanList of %.200q with %.200q for %.200q and %d: %.50v, %v", a.s, a.names, a.types, a.n, got, ok)
	}
	if got, ok := a.count(); ok || got != 0 {
		t.Errorf("MeanCount of %.200q with %.200q for %.200q and %d: %d, %v", a.s, a.names, a.types, a.n, got, ok)
	}
	if impl.MeanAlike(a.s, a.s, a.names, a.types, a.n) {
		t.Errorf("MeanAlike of %.200q with %.200q for %.200q and %d, both the same", a.s, a.names, a.types, a.n)
	}
}

func TestNumbersOfElements(t *testing.T) {
	for _, n := range wrongNumbers {
		for _, a := range []asked{
			{"(cut x k)", []string{"x", "k"}, []string{"a", "a"}, n, []int{0, 0}},
			{"(cut (mu k (cut (not k) l)) (tmu x (cut x k)))", []string{"k", "l"}, []string{"a", "(- a)"}, n, []int{1, 1}},
		} {
			checkNoMeaning(t, a)
			checkNoList(t, a)
		}
	}
	for n := 1; n <= 3; n++ {
		a := asked{"(cut x k)", []string{"x", "k"}, []string{"a", "a"}, n, nil}
		if list, ok := a.list(); !ok || len(list) != n<<n {
			t.Errorf("MeanList of %q with %d has %d bits", a.s, n, len(list))
		}
		checkNoMeaning(t, a.at(n, 0))
		checkNoMeaning(t, a.at(0, 1<<n))
		for x := range n {
			for k := range 1 << n {
				if got, ok := a.at(x, k).bit(); !ok || got != is(k, x) {
					t.Errorf("MeanBit of %q with %d at %d and %d: %d, %v", a.s, n, x, k, got, ok)
				}
			}
		}
	}
}

func TestValuesInAndOutOfTheRange(t *testing.T) {
	base := asked{s: "(cut x k)", names: []string{"x", "k", "y", "l"}, types: []string{"(* a b)", "(* a b)", "(- (- a))", "(- a)"}, n: 2}
	last := []int{3, 15, 15, 15}
	if got, ok := base.at(last...).bit(); !ok || got != 1 {
		t.Errorf("MeanBit of %q at %d: %d, %v", base.s, last, got, ok)
	}
	for i := range last {
		for _, wrong := range []int{last[i] + 1, last[i] + 2, -1, math.MinInt, math.MaxInt, 1 << 32, 1<<32 + 1, 1 << 62} {
			values := slices.Clone(last)
			values[i] = wrong
			checkNoMeaning(t, base.at(values...))
		}
		checkNoMeaning(t, base.at(slices.Delete(slices.Clone(last), i, i+1)...))
		checkNoMeaning(t, base.at(slices.Insert(slices.Clone(last), i, 0)...))
	}
	checkNoMeaning(t, base.at())
	checkNoMeaning(t, base.at(append(last, last...)...))
}

// For values of covariables, types of up to 20 elements will do; bound ones have no values, and may have types of more.
func TestCovariablesOfManyElements(t *testing.T) {
	for n, types := range map[int][2]string{1: {sum(20), sum(21)}, 2: {product(5, 1), product(11)}, 3: {"(+ (- a) (+ a (* a a)))", product(7)}} {
		just, more := types[0], types[1]
		if setSize(just, n) != 20 || setSize(more, n) <= 20 {
			t.Fatalf("%q and %q have %d and %d elements", just, more, setSize(just, n), setSize(more, n))
		}
		a := asked{s: "(cut x k)", names: []string{"x", "k"}, types: []string{just, just}, n: n}
		for x := range 20 {
			for k, want := range map[int]int{1 << x: 1, 1<<20 - 1: 1, 1<<20 - 1 - 1<<x: 0, 0: 0} {
				if got, ok := a.at(x, k).bit(); !ok || got != want {
					t.Errorf("MeanBit of %q with %q at %d and %d: %d, %v", a.s, a.types, x, k, got, ok)
				}
			}
		}
		checkNoMeaning(t, a.at(0, 1<<20))
		checkNoMeaning(t, a.at(20, 1))
		checkNoList(t, a)
		beyond := asked{s: "(cut x k)", names: []string{"x", "k"}, types: []string{more, more}, n: n}
		elsewhere := asked{s: "(cut x k)", names: []string{"x", "k", "l"}, types: []string{"a", "a", more}, n: n}
		for _, value := range []int{0, 1, 1 << 20, 1<<21 - 1, -1} {
			checkNoMeaning(t, beyond.at(0, value))
			checkNoMeaning(t, elsewhere.at(0, 0, value))
		}
		checkNoList(t, beyond)
		checkNoList(t, elsewhere)
		bound := asked{s: "(cut (mu k (cut (inr x) k)) (case l (tmu y (cut z l))))", names: []string{"x", "l", "z"}, types: []string{more, "a", "a"}, n: n}
		for x := range setSize(more, n) {
			if got, ok := bound.at(x, 1, 0).bit(); !ok || got != 1 {
				t.Errorf("MeanBit of %q with %q at %d: %d, %v", bound.s, bound.types, x, got, ok)
			}
		}
	}
}

// A listCase has names beside z and m, which are both of a letter, and the number of lists of values.
type listCase struct {
	n, count     int
	names, types []string
}

func TestListsOfJustListMax(t *testing.T) {
	for _, c := range []listCase{
		{1, 2, nil, nil}, {2, 8, nil, nil}, {3, 24, nil, nil},
		{1, 5000, []string{"x", "y", "k"}, []string{product(5, 5), product(5, 5), sum(2)}}, {1, 5000, []string{"k", "x", "x1", "x2", "x3"}, []string{sum(2), sum(5), sum(5), sum(5), sum(5)}}, {1, 5000, []string{"l", "x", "y"}, []string{"a", product(5, 5, 10), sum(5)}},
		{1, 4998, []string{"x", "y"}, []string{product(3, 17), product(7, 7)}}, {1, 5004, []string{"x", "y"}, []string{"(+ " + product(6, 23) + " a)", product(3, 6)}}, {1, 5002, []string{"x", "y"}, []string{"(+ a " + product(5, 8) + ")", "(+ a " + product(6, 10) + ")"}}, {1, 5004, []string{"x", "y", "l"}, []string{product(9), "(+ a " + product(6, 23) + ")", "a"}},
		{1, 4096, []string{"k"}, []string{sum(11)}}, {1, 8192, []string{"k"}, []string{sum(12)}}, {1, 4096, []string{"k", "l"}, []string{sum(5), sum(6)}}, {1, 8192, []string{"k", "l"}, []string{sum(6), sum(6)}}, {1, 1 << 21, []string{"k"}, []string{sum(20)}},
		{2, 4992, []string{"x", "y"}, []string{product(13), product(3, 2)}}, {2, 5120, []string{"x", "y"}, []string{product(4, 2), product(5, 1)}}, {2, 4096, []string{"x", "k", "y"}, []string{"(- a)", "(- a)", product(4)}}, {2, 8 * 300, []string{"x"}, []string{product(15, 5)}},
		{3, 4992, []string{"x", "y"}, []string{"(- a)", "(+ (- a) (+ (* a a) (* a a)))"}}, {3, 5184, []string{"x", "y"}, []string{"(- a)", "(* a (* a a))"}}, {3, 24 * 256, []string{"k"}, []string{"(- a)"}}, {3, 24 * 64, []string{"k"}, []string{"(+ a a)"}},
	} {
		a := asked{s: "(cut z m)", names: append(append([]string{"z"}, c.names...), "m"), types: append(append([]string{"a"}, c.types...), "a"), n: c.n}
		count := 1
		for _, values := range a.ranges() {
			count *= values
		}
		if count != c.count {
			t.Fatalf("%q have %d lists of values, not %d", a.types, count, c.count)
		}
		if count > 5000 {
			checkNoList(t, a)
			continue
		}
		var want []int
		for _, values := range a.allValues() {
			want = append(want, is(values[len(values)-1], values[0]))
		}
		if got, ok := a.list(); !ok || len(got) != count || !slices.Equal(got, want) {
			t.Errorf("MeanList of %q with %q and %d: %d bits, %v", a.s, a.types, a.n, len(got), ok)
		}
		if got, ok := a.count(); !ok || got != count/2 {
			t.Errorf("MeanCount of %q with %q and %d: %d, %v", a.s, a.types, a.n, got, ok)
		}
	}
}

// Numbers of lists that come to few, or none, if they are counted with a wrap.
func TestListsBeyondAllIntegers(t *testing.T) {
	for _, c := range []struct {
		n, count  int
		class, of string
	}{{3, 8, "x", "(- (- a))"}, {3, 16, "y", "(- (- a))"}, {2, 63, "x", "a"}, {2, 62, "x", "a"}, {2, 64, "x", "a"}, {2, 128, "y", "a"}, {1, 64, "k", "a"}, {2, 16, "l", "(* a a)"}, {1, 16, "k", sum(20)}, {1, 7, "x", product(15, 5, 4)}, {1, 8, "x", product(15, 5, 4)}, {3, 900, "x", "a"}, {3, 900, "k", "a"}} {
		a := asked{s: "(cut z m)", names: []string{"z", "m"}, types: []string{"a", "a"}, n: c.n}
		for i := range c.count {
			a.names = append(a.names, c.class+strconv.Itoa(i))
			a.types = append(a.types, c.of)
		}
		checkNoList(t, a)
		if got, ok := a.at(make([]int, len(a.names))...).bit(); !ok || got != 0 {
			t.Errorf("MeanBit of %q with %d names: %d, %v", a.s, len(a.names), got, ok)
		}
	}
	a := asked{s: "(cut z m)", names: []string{"z", "m"}, types: []string{"a", "a"}, n: 1}
	for i := range 1000 {
		for _, class := range []string{"x", "y"} {
			a.names = append(a.names, class+strconv.Itoa(i))
			a.types = append(a.types, "(* a (* b c))")
		}
	}
	if got, ok := a.list(); !ok || !slices.Equal(got, []int{0, 1}) {
		t.Errorf("MeanList of %q with %d names: %v, %v", a.s, len(a.names), got, ok)
	}
}

// The types of all parts must be known, also where they are bound and no value of them is asked for, and those of all names.
func TestTypesThatAreNotKnown(t *testing.T) {
	sets := greatSets()
	for _, c := range []struct {
		s, of string // of is the type of x
		n     int
		known bool
	}{
		{"(cut z m)", sets[1][0], 1, true}, {"(cut z m)", sets[1][2], 1, false}, {"(cut z m)", sets[2][0], 2, true}, {"(cut z m)", sets[2][3], 2, false}, {"(cut z m)", sets[3][0], 3, true}, {"(cut z m)", sets[3][2], 3, false}, {"(cut z m)", nots(7, "a"), 1, false},
		{"(cut x (tmu y (cut z m)))", sets[1][0], 1, true}, {"(cut x (tmu y (cut z m)))", sets[1][3], 1, false},
		{"(cut (pair x x) (tmu y (cut z m)))", sum(17), 1, true}, {"(cut (pair x x) (tmu y (cut z m)))", product(6, 3), 1, false}, {"(cut (pair x x) (tmu y (cut z m)))", product(8), 2, true}, {"(cut (pair x x) (tmu y (cut z m)))", product(9), 2, false},
		{"(cut (pair x (pair x x)) (tmu y (cut z m)))", sum(6), 1, true}, {"(cut (pair x (pair x x)) (tmu y (cut z m)))", sum(7), 1, false},
		{"(cut (pair (pair x x) x) (snd (tmu y (cut z m))))", sum(6), 1, true}, {"(cut (pair (pair x x) x) (snd (tmu y (cut z m))))", sum(7), 1, false},
		// What is not told of a sum or a pair has n elements.
		{"(cut (inl x) (tmu y (cut z m)))", nextToMax, 1, true}, {"(cut (inl x) (tmu y (cut z m)))", sets[1][0], 1, false}, {"(cut (inr x) (tmu y (cut z m)))", nextToMax, 1, true}, {"(cut (inr x) (tmu y (cut z m)))", sets[1][0], 1, false},
		{"(cut (inl x) (tmu y (cut z m)))", "(* (* a (* a a)) (+ (- a) a))", 3, true}, {"(cut (inl x) (tmu y (cut z m)))", sets[3][0], 3, false}, {"(cut (inr x) (tmu y (cut z m)))", "(+ a (* (* a (* a a)) (+ (- a) a)))", 3, false},
		{"(cut (mu k (cut z m)) (fst (tmu y (cut (mu l (cut (mu k (cut x l)) (tmu x (cut y l)))) (tmu x (cut z m))))))", product(5, 5, 3, 2), 2, false}, {"(cut (mu k (cut z m)) (fst (tmu y (cut (mu l (cut (mu k (cut x l)) (tmu x (cut y l)))) (tmu x (cut z m))))))", product(15, 2), 2, true},
		{"(cut (mu k (cut z m)) (snd (tmu y (cut (mu l (cut (mu k (cut x l)) (tmu x (cut y l)))) (tmu x (cut z m))))))", sets[3][0], 3, false}, {"(cut (mu k (cut z m)) (snd (tmu y (cut (mu l (cut (mu k (cut x l)) (tmu x (cut y l)))) (tmu x (cut z m))))))", "(* (- a) (+ a (* a a)))", 3, true},
		{"(cut (mu k (cut z m)) (case (neg x) (neg x)))", "(+ (* a a) (+ a a))", 1, true}, {"(cut (mu k (cut z m)) (case (neg x) (neg x)))", sum(7), 1, true}, {"(cut (mu k (cut z m)) (case (neg x) (neg x)))", sum(8), 1, false},
		// Opposites of up to 8 elements.
		{"(cut (mu k (cut z m)) (neg x))", sum(8), 1, true}, {"(cut (mu k (cut z m)) (neg x))", sum(9), 1, false}, {"(cut (not (tmu y (cut (mu l (cut (mu k (cut x l)) (tmu x (cut y l)))) (tmu x (cut z m))))) (tmu y (cut z m)))", sum(8), 1, true}, {"(cut (not (tmu y (cut (mu l (cut (mu k (cut x l)) (tmu x (cut y l)))) (tmu x (cut z m))))) (tmu y (cut z m)))", sum(9), 1, false},
		{"(cut (not (neg x)) (tmu y (cut z m)))", sum(3), 1, true}, {"(cut (not (neg x)) (tmu y (cut z m)))", sum(4), 1, false}, {"(cut (not (neg x)) (tmu y (cut z m)))", "a", 3, true}, {"(cut (not (neg x)) (tmu y (cut z m)))", "(- a)", 2, false}, {"(cut (mu k (cut z m)) (neg (not (neg x))))", "a", 1, true}, {"(cut (mu k (cut z m)) (neg (not (neg x))))", "a", 2, false}, {"(cut (not (neg (not (neg x)))) (tmu y (cut z m)))", "a", 1, false},
		// Letters that the types of the names do not tell.
		{"(cut (inl z) (case m (tmu y (cut (mu k (cut z m)) (neg y)))))", "b", 3, true}, {"(cut (inl z) (case m (tmu y (cut (not (neg y)) (tmu x (cut z m))))))", "b", 3, true},
		{"(cut (inl z) (case m (tmu y (cut (mu k (cut z m)) (neg (not (neg y)))))))", "b", 1, true}, {"(cut (inl z) (case m (tmu y (cut (mu k (cut z m)) (neg (not (neg y)))))))", "b", 2, false}, {"(cut (inl z) (case m (tmu y (cut (not (neg (not (neg y)))) (tmu x (cut z m))))))", "b", 1, false},
		{"(cut (mu k (cut z m)) (tmu y (cut (pair y y) (tmu x (cut (pair x x) (tmu y (cut z m)))))))", "b", 3, true}, {"(cut (mu k (cut z m)) (tmu y (cut (pair y y) (tmu x (cut (pair x x) (tmu y (cut (pair y y) (tmu x (cut z m)))))))))", "b", 2, true}, {"(cut (mu k (cut z m)) (tmu y (cut (pair y y) (tmu x (cut (pair x x) (tmu y (cut (pair y y) (tmu x (cut z m)))))))))", "b", 3, false},
	} {
		a := asked{s: c.s, names: []string{"z", "x", "m"}, types: []string{"a", c.of, "a"}, n: c.n}
		if !impl.TypeHas(a.s, a.names, a.types, "") {
			t.Fatalf("%q has not the types %q", a.s, a.types)
		}
		if _, told := a.told(); told != c.known {
			t.Fatalf("%q with %q and %d is known: %v", a.s, a.types, a.n, told)
		}
		for m := range 1 << c.n {
			for z := range c.n {
				a = a.at(z, 0, m)
				if !c.known {
					checkNoMeaning(t, a)
				} else if got, ok := a.bit(); !ok || got != is(m, z) {
					t.Errorf("MeanBit of %q with %q and %d at %d: %d, %v", a.s, a.types, a.n, a.values, got, ok)
				}
			}
		}
		if !c.known {
			checkNoList(t, a)
		}
	}
}

// A part may have a type that is too large to be a formula, with few elements.
func TestTypesOfManyAtomsAndFewElements(t *testing.T) {
	wide := chain("*", slices.Repeat([]string{"a"}, 30))
	for s, want := range map[string][]int{
		"(cut (pair x (pair x x)) (fst (tmu y (cut z m))))":                                                {0, 1},
		"(cut (not (tmu y (cut (pair y (pair y x)) (snd (fst (tmu x (cut z m))))))) (neg x))":              {0, 1},
		"(cut (pair x x) (tmu x (cut (pair x x) (tmu x (cut (pair x x) (tmu x (cut z m)))))))":             {0, 1},
		"(cut (pair x x) (tmu x (cut (not (tmu y (cut z m))) (neg (pair (pair x x) (pair x x))))))":        {0, 1},
		"(cut (pair x x) (tmu x (cut (inr (pair x x)) (case (tmu y (cut y (neg z))) (tmu y (cut z m))))))": {0, 1},
	} {
		a := asked{s: s, names: []string{"z", "x", "m"}, types: []string{"a", wide, "a"}, n: 1}
		if got, ok := a.list(); !ok || !slices.Equal(got, want) {
			t.Errorf("MeanList of %q: %v, %v", s, got, ok)
		}
	}
}

func TestNamesThatAreNotInTheStatement(t *testing.T) {
	a := asked{s: "(cut x k)", names: []string{"k", "y", "x", "l"}, types: []string{"a", "(+ b c)", "a", "(- a)"}, n: 2}
	var want []int
	for k := range 4 {
		for range 4 {
			for x := range 2 {
				want = append(want, slices.Repeat([]int{is(k, x)}, 16)...)
			}
		}
	}
	if got, ok := a.list(); !ok || !slices.Equal(got, want) {
		t.Errorf("MeanList of %q with %q: %v, %v", a.s, a.names, got, ok)
	}
	for _, values := range [][]int{{3, 4, 0, 0}, {3, -1, 0, 0}, {3, 0, 0, 16}, {3, 0, 0, -1}, {3, 0}, {3, 0, 0}} {
		checkNoMeaning(t, a.at(values...))
	}
	a.types = []string{"a", nots(4, "b"), "a", "(- a)"}
	checkNoMeaning(t, a.at(0, 0, 0, 0))
	checkNoList(t, a)
	a.types = []string{"a", "b", "a", nots(3, "b")}
	checkNoMeaning(t, a.at(0, 0, 0, 0))
	checkNoList(t, a)
}

// checkNothing holds that nothing is told by any function.
func checkNothing(t *testing.T, a asked) {
	t.Helper()
	if got, ok := a.bit(); ok || got != 0 {
		t.Errorf("MeanBit of %.200q with %.200q for %.200q and %d at %.50v: %d, %v", a.s, a.names, a.types, a.n, a.values, got, ok)
	}
	if got, ok := a.name(); ok || got != 0 {
		t.Errorf("MeanName of %.200q with %.200q for %.200q and %d at %.50v: %d, %v", a.s, a.names, a.types, a.n, a.values, got, ok)
	}
	checkNoList(t, a)
	for _, s := range []string{"(cut x k)", "(cut x l)", ""} {
		if impl.MeanAlike(a.s, s, a.names, a.types, a.n) && a.s != s || impl.MeanAlike(s, a.s, a.names, a.types, a.n) && a.s != s {
			t.Errorf("MeanAlike of %.200q and %q with %.200q for %.200q and %d", a.s, s, a.names, a.types, a.n)
		}
	}
}

func TestTextsThatAreNoStatementMeanNothing(t *testing.T) {
	names, types := []string{"x", "k", "y", "l"}, []string{"a", "a", "b", "b"}
	wrong := append(wrongPrograms(), "", "x", "k", "(pair x y)", "(not k)", "(case k l)", "(mu k (cut x k))", "(tmu x (cut x k))", "(cut k x)", "(cut x k) ", " (cut x k)", "(cut x k", "(cut x)", "(cut x x)", "(cut k k)", "a", "(- a)")
	for _, s := range wrong {
		for _, n := range []int{1, 2} {
			checkNothing(t, asked{s, names, types, n, []int{0, 0, 0, 0}})
			checkNothing(t, asked{s, nil, nil, n, nil})
		}
	}
}

func TestTypesThatAStatementHasNot(t *testing.T) {
	for _, a := range []asked{
		{s: "(cut x k)", names: []string{"x", "k"}, types: []string{"a", "b"}}, {s: "(cut x k)", names: []string{"x", "k"}, types: []string{"(- a)", "a"}}, {s: "(cut x k)", names: []string{"x", "k"}, types: []string{"(* a b)", "(* b a)"}},
		{s: "(cut x (fst k))", names: []string{"x", "k"}, types: []string{"a", "a"}}, {s: "(cut x (fst k))", names: []string{"x", "k"}, types: []string{"(* b a)", "a"}}, {s: "(cut (inl x) k)", names: []string{"x", "k"}, types: []string{"a", "(+ b a)"}}, {s: "(cut x (neg x))", names: []string{"x"}, types: []string{"a"}},
		{s: "(cut x (neg x))", names: []string{"x"}, types: []string{"(- a)"}}, {s: "(cut (pair x y) (case k l))", names: []string{"x", "y", "k", "l"}, types: []string{"a", "a", "a", "a"}},
		// Names that are missing, twice, or none.
		{s: "(cut x k)"}, {s: "(cut x k)", names: []string{"x"}, types: []string{"a"}}, {s: "(cut x k)", names: []string{"k", "y"}, types: []string{"a", "a"}}, {s: "(cut x k)", names: []string{"x", "k", "x"}, types: []string{"a", "a", "a"}}, {s: "(cut x k)", names: []string{"k", "k", "x"}, types: []string{"a", "a", "a"}}, {s: "(cut x k)", names: []string{"x", "k", "y", "y"}, types: []string{"a", "a", "a", "a"}},
		{s: "(cut x k)", names: []string{"x", "k", ""}, types: []string{"a", "a", "a"}}, {s: "(cut x k)", names: []string{"x", "k", "a"}, types: []string{"a", "a", "a"}}, {s: "(cut x k)", names: []string{"x", "k", "x1234"}, types: []string{"a", "a", "a"}}, {s: "(cut x k)", names: []string{"x ", "k"}, types: []string{"a", "a"}}, {s: "(cut x k)", names: []string{"x", "k", "(inl x)"}, types: []string{"a", "a", "a"}}, {s: "(cut x1 k)", names: []string{"x", "k"}, types: []string{"a", "a"}}, {s: "(cut x00 k)", names: []string{"x0", "k"}, types: []string{"a", "a"}},
		// Types that are no formulas, or of another number than the names.
		{s: "(cut x k)", names: []string{"x", "k"}, types: []string{"", ""}}, {s: "(cut x k)", names: []string{"x", "k"}, types: []string{"a", ""}}, {s: "(cut x k)", names: []string{"x", "k"}, types: []string{"A", "A"}}, {s: "(cut x k)", names: []string{"x", "k"}, types: []string{"(- a", "(- a"}}, {s: "(cut x k)", names: []string{"x", "k"}, types: []string{nots(60, "a"), nots(60, "a")}}, {s: "(cut x k)", names: []string{"x", "k", "y"}, types: []string{"a", "a", "(a)"}},
		{s: "(cut x k)", names: []string{"x", "k"}, types: []string{"a"}}, {s: "(cut x k)", names: []string{"x", "k"}, types: []string{"a", "a", "a"}}, {s: "(cut x k)", names: []string{"x", "k", "y"}, types: []string{"a", "a"}}, {s: "(cut x k)", names: []string{"x", "k"}}, {s: "(cut x k)", types: []string{"a", "a"}},
	} {
		for n := 1; n <= 3; n++ {
			for _, count := range []int{len(a.names), len(a.types), 0, 1} {
				a.n, a.values = n, make([]int, count)
				checkNothing(t, a)
			}
		}
	}
}

func TestMeanAlike(t *testing.T) {
	names, types := []string{"x", "k", "y", "l", "m"}, []string{"a", "a", "b", "b", "(* a b)"}
	groups := [][]string{
		{"(cut x k)", "(cut (mu k0 (cut x k0)) k)", "(cut x (tmu y (cut y k)))", "(cut (pair x y) (fst k))", "(cut (pair (mu k (cut x k)) y) (fst k))", "(cut (mu m (cut x k)) (tmu x (cut y l)))", "(cut (inl x) (case k l))", "(cut (not k) (neg x))"},
		{"(cut y l)", "(cut (pair x y) (snd l))", "(cut (inr y) (case k l))", "(cut (mu k (cut y l)) (tmu z (cut x k)))", "(cut (mu k (cut y k)) l)"},
		{"(cut (pair x y) m)", "(cut (mu k (cut (pair x y) k)) m)", "(cut x (tmu z (cut (pair z y) m)))", "(cut y (tmu x0 (cut (pair x x0) m)))", "(cut (pair (mu k (cut x k)) (mu l (cut y l))) m)"},
	}
	for i, group := range groups {
		for j, others := range groups {
			for _, a := range group {
				for _, b := range others {
					for n := 1; n <= 2; n++ {
						if got := impl.MeanAlike(a, b, names, types, n); got != (i == j) {
							t.Errorf("MeanAlike of %q and %q with %d: %v", a, b, n, got)
						}
					}
					// Far too many values.
					if impl.MeanAlike(a, b, names, types, 3) {
						t.Errorf("MeanAlike of %q and %q with 3", a, b)
					}
				}
			}
		}
	}
	for _, wrong := range []string{"", "x", "(cut x l)", "(cut y k)", "(cut z k)", "(cut x m)", "(cut (not (tmu z (cut z (neg (not (neg (not k))))))) (tmu y (cut x k)))"} {
		if impl.MeanAlike("(cut x k)", wrong, names, types, 2) || impl.MeanAlike(wrong, "(cut x k)", names, types, 2) || impl.MeanAlike(wrong, wrong, names, types, 2) {
			t.Errorf("MeanAlike of %q", wrong)
		}
	}
	if impl.MeanAlike("(cut x k)", "(cut y l)", []string{"x", "k"}, []string{"a", "a"}, 2) {
		t.Errorf("MeanAlike of a statement with a name that has no type")
	}
}

// By name, what is bound by tmu goes ahead, and variables have values as covariables have by value.
func TestMeanName(t *testing.T) {
	for k := range 2 {
		for x := range 4 {
			if got, ok := impl.MeanName("(cut x k)", []string{"x", "k"}, []string{"a", "a"}, 2, []int{x, k}); !ok || got != is(x, k) {
				t.Errorf("MeanName of (cut x k) at %d and %d: %d, %v", x, k, got, ok)
			}
		}
	}
	names, types := []string{"x", "l", "z", "m"}, []string{"a", "a", "(* b b)", "(* b b)"}
	for x := range 4 {
		for z := range 16 {
			for l := range 2 {
				for m := range 4 {
					values := []int{x, l, z, m}
					got, ok := impl.MeanName("(cut (mu k (cut x l)) (tmu y (cut z m)))", names, types, 2, values)
					if !ok || got != is(z, m) {
						t.Errorf("MeanName at %d: %d, %v", values, got, ok)
					}
					// A pair is a sum by name: m is one of 2 and 2 elements.
					got, ok = impl.MeanName("(cut (pair x y) m)", []string{"x", "l", "y", "m"}, []string{"a", "a", "b", "(* a b)"}, 2, []int{x, l, z & 3, m})
					if !ok || got != above(2, m, x, z&3) {
						t.Errorf("MeanName of (cut (pair x y) m) at %d: %d, %v", values, got, ok)
					}
				}
			}
		}
	}
	for _, values := range [][]int{{4, 0}, {0, 2}, {-1, 0}, {0, -1}, {0}, {0, 0, 0}, nil} {
		if got, ok := impl.MeanName("(cut x k)", []string{"x", "k"}, []string{"a", "a"}, 2, values); ok || got != 0 {
			t.Errorf("MeanName of (cut x k) at %d: %d, %v", values, got, ok)
		}
	}
	// A variable has up to 2 to the power of 20 values.
	for _, c := range []struct {
		of string
		ok bool
	}{{sum(20), false}, {chain("*", slices.Repeat([]string{"a"}, 20)), true}, {chain("*", slices.Repeat([]string{"a"}, 21)), false}} {
		got, ok := impl.MeanName("(cut x k)", []string{"x", "k"}, []string{c.of, c.of}, 1, []int{1<<20 - 1, 19})
		if ok != c.ok || got != map[bool]int{true: 1}[ok] {
			t.Errorf("MeanName with %q: %d, %v", c.of, got, ok)
		}
	}
}

func TestMeanCount(t *testing.T) {
	for _, c := range []struct {
		given meaningCase
		n     int
		want  int
	}{
		{meaningCase{s: "(cut x k)", given: "x a, k a"}, 1, 1}, {meaningCase{s: "(cut x k)", given: "x a, k a"}, 2, 4}, {meaningCase{s: "(cut x k)", given: "x a, k a"}, 3, 12},
		{meaningCase{s: "(cut x k)", given: "x a, k a, y b"}, 3, 36}, {meaningCase{s: "(cut z (case k k))", given: "z (+ a a), k a"}, 2, 8}, {meaningCase{s: "(cut (pair x x) k)", given: "x a, k (* a a)"}, 2, 16},
		{meaningCase{s: "(cut x (neg x))", given: "x a"}, 2, 0}, {meaningCase{s: "(cut (mu k (cut (not k) l)) (tmu x (cut x k)))", given: "l (- a), k a"}, 2, 32},
	} {
		a := c.given.asks()
		a.n = c.n
		list, ok := a.list()
		got, okCount := a.count()
		if c.want == 0 {
			checkNoList(t, a)
			continue
		}
		if ones := count(bitTexts(list), "1"); !ok || !okCount || got != c.want || ones != got {
			t.Errorf("MeanCount of %q with %q and %d: %d, %v, of %v", a.s, a.types, a.n, got, okCount, list)
		}
	}
}

// bitTexts writes each bit.
func bitTexts(bits []int) []string {
	var texts []string
	for _, bit := range bits {
		texts = append(texts, strconv.Itoa(bit))
	}
	return texts
}

func TestMeaningsAreApart(t *testing.T) {
	names, types, values := []string{"x", "k", "y"}, []string{"(* a b)", "(* a b)", "a"}, []int{3, 8, 1}
	a := asked{s: "(cut (pair x y) (fst (tmu x (cut x k))))", names: slices.Clone(names), types: slices.Clone(types), n: 2, values: slices.Clone(values)}
	first, ok := a.list()
	want := slices.Clone(first)
	for range 2 {
		second, okAgain := a.list()
		if bit, okBit := a.bit(); !ok || !okAgain || !okBit || bit != 1 || !slices.Equal(second, want) {
			t.Fatalf("MeanList of %q: %v, %v, and MeanBit %d, %v", a.s, second, okAgain, bit, okBit)
		}
		for i := range second[:cap(second)] {
			second[:cap(second)][i] = 7
		}
		a.name()
		a.count()
		impl.MeanAlike(a.s, a.s, a.names, a.types, a.n)
	}
	if !slices.Equal(first, want) || !slices.Equal(a.names, names) || !slices.Equal(a.types, types) || !slices.Equal(a.values, values) {
		t.Errorf("what was given or told is changed")
	}
}

// applied and function are what a function of a program looks like: it takes an element of a, and what goes on with one.
func applied(function string, to string) string {
	return "(mu k9 (cut " + function + " (neg (pair " + to + " (not k9)))))"
}

func function(x string, body string) string {
	return "(not (tmu y99 (cut y99 (fst (tmu " + x + " (cut y99 (snd (neg " + body + "))))))))"
}

// functionType is the type of functions from a to a, of 256 elements for n of 2.
const functionType = "(- (* a (- a)))"

// checkDeep holds a bit of a statement that asks for the same in more than one place on each of many levels.
func checkDeep(t *testing.T, a asked, want int) {
	t.Helper()
	if programKind(a.s) != "statement" || nesting(a.s) < 25 {
		t.Fatalf("%q is no deep statement", a.s)
	}
	if got, ok := a.bit(); !ok || got != want {
		t.Errorf("MeanBit of %q with %q and %d at %d: %d, %v, not %d", a.s, a.types, a.n, a.values, got, ok, want)
	}
	if got, ok := a.dual().name(); !ok || got != want {
		t.Errorf("MeanName of the dual of %q with %q and %d at %d: %d, %v, not %d", a.s, a.types, a.n, a.values, got, ok, want)
	}
}

func TestDeepOpposites(t *testing.T) {
	for _, k := range []int{0, 1, 8, 9, 0b1111_1110, 0b101, 0b1000_0000, 0b1000_0001} {
		for n := 2; n <= 3; n++ {
			s, want := "(cut x l)", 1
			for range 60 {
				s = "(cut (not (tmu x1 " + s + ")) k)"
				// All bits of what is opposed are the same.
				want = is(k, map[int]int{0: 0, 1: 1<<n - 1}[want])
			}
			if k < 1<<(1<<n) {
				checkDeep(t, asked{s, []string{"x", "k", "l"}, []string{"a", "(- a)", "a"}, n, []int{1, k, 2}}, want)
			}
		}
	}
}

func TestDeepNames(t *testing.T) {
	// All names are free in what is innermost, and all elements of them would be too many.
	s := "(cut x k)"
	for i := range 40 {
		s = "(cut y" + strconv.Itoa(i) + " (tmu z " + s + "))"
	}
	for i := range 40 {
		s = "(cut x (tmu y" + strconv.Itoa(i) + " " + s + "))"
	}
	for x := range 3 {
		for k := range 8 {
			checkDeep(t, asked{s, []string{"x", "k"}, []string{"a", "a"}, 3, []int{x, k}}, is(k, x))
		}
	}
	inner := "x"
	for i := range 14 {
		inner = "(mu k (cut (pair y" + strconv.Itoa(i) + " " + inner + ") (snd k)))"
	}
	for i := range 14 {
		inner = applied(function("y"+strconv.Itoa(i), inner), "x")
	}
	for x := range 2 {
		for k := range 4 {
			checkDeep(t, asked{"(cut " + inner + " k)", []string{"x", "k"}, []string{"a", "a"}, 2, []int{x, k}}, is(k, x))
		}
	}
}

// A table of a function tells its bit for an element, and for the number of what goes on.
type table [2][4]int

func tableOf(y int) table {
	var f table
	for x := range 2 {
		for k := range 4 {
			f[x][k] = is(y, x*4+k)
		}
	}
	return f
}

// onwards is the number of what goes on with a function, and then as told.
func (f table) onwards(k int) int { return f[0][k] + 2*f[1][k] }

func TestDeepFunctions(t *testing.T) {
	names, types := []string{"x", "y", "m"}, []string{"a", functionType, "a"}
	often := "x"
	for range 45 {
		often = applied("y", often)
	}
	// Each function is the one before it, twice; so the last one is the first one very often.
	doubled := "(cut " + applied("z9", "x") + " m)"
	for i := 9; i >= 0; i-- {
		before := "z" + strconv.Itoa(i-1)
		if i == 0 {
			before = "y"
		}
		doubled = "(cut " + function("x9", applied(before, applied(before, "x9"))) + " (tmu z" + strconv.Itoa(i) + " " + doubled + "))"
	}
	for _, y := range []int{0, 1, 0b1010_0101, 0b1100_1010, 0b1010_1100, 0b0110_1001, 0b1111_0000, 255} {
		for x := range 2 {
			for m := range 4 {
				f, k := tableOf(y), m
				for range 45 {
					k = f.onwards(k)
				}
				checkDeep(t, asked{"(cut " + often + " m)", names, types, 2, []int{x, y, m}}, is(k, x))
				for range 10 {
					var twice table
					for x := range 2 {
						for k := range 4 {
							twice[x][k] = f[x][f.onwards(k)]
						}
					}
					f = twice
				}
				checkDeep(t, asked{doubled, names, types, 2, []int{x, y, m}}, f[x][m])
			}
		}
	}
}

// A great statement at many values: more is asked of its parts than can be remembered.
func TestListOfTheGreatest(t *testing.T) {
	s := "(cut (pair x (pair y z)) k)"
	for range 61 {
		s = "(cut (mu l (cut x1 l)) (tmu x " + s + "))"
	}
	if impl.ProgramSize(s) != 495 {
		t.Fatalf("%q has %d atoms", s, impl.ProgramSize(s))
	}
	a := asked{s: s, names: []string{"x1", "y", "z", "k"}, types: []string{"a", "a", "b", "(* a (* a b))"}, n: 2}
	var want []int
	for place := range 8 * 256 {
		want = append(want, is(place%256, place/256))
	}
	if got, ok := a.list(); !ok || !slices.Equal(got, want) {
		t.Errorf("MeanList of %q: %d bits, %v", s, len(got), ok)
	}
}
