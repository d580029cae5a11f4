package tests

import (
	"maps"
	"regexp"
	"slices"
	"strconv"
	"strings"
	"sync"

	"loop.example/classicalcontrol/impl"
)

var (
	twoSets = regexp.MustCompile(`\(([*+]) (\d+) (\d+)\)`)
	oneSet  = regexp.MustCompile(`\(- (\d+)\)`)
)

// manySets stands for any number of elements that is too great.
const manySets = 1 << 20

// setSize tells by rewriting the text of a type how many elements it has; up to manySets, as all numbers grow. What is not known of it has n.
func setSize(of string, n int) int {
	number := strconv.Itoa(n)
	of = letterText.ReplaceAllString(unknownText.ReplaceAllString(of, number), number)
	read := func(s string) int {
		value, err := strconv.Atoi(s)
		if err != nil {
			panic(err)
		}
		return value
	}
	for strings.Contains(of, "(") {
		of = twoSets.ReplaceAllStringFunc(of, func(s string) string {
			found := twoSets.FindStringSubmatch(s)
			a, b := read(found[2]), read(found[3])
			if found[1] == "*" {
				return strconv.Itoa(min(a*b, manySets))
			}
			return strconv.Itoa(min(a+b, manySets))
		})
		of = oneSet.ReplaceAllStringFunc(of, func(s string) string {
			return strconv.Itoa(1 << min(read(oneSet.FindStringSubmatch(s)[1]), 20))
		})
	}
	return read(of)
}

// A typedText is a part of a text with its type, and the name that it binds.
type typedText struct {
	head, bound string // the head is the name where there is none
	parts       []*typedText
	of          string
}

// typedParts tells the parts of a program with equations between their types, and adds them to all.
func (e *equations) typedParts(s string, types map[string]string, all *[]*typedText) *typedText {
	made := &typedText{head: s, of: types[s]}
	*all = append(*all, made)
	if !strings.HasPrefix(s, "(") {
		return made
	}
	parts := textParts(s)
	made.head = parts[0]
	if made.head == "mu" || made.head == "tmu" {
		made.bound, made.of = parts[1], e.unknown()
		inner := maps.Clone(types)
		inner[made.bound] = made.of
		made.parts = []*typedText{e.typedParts(parts[2], inner, all)}
		return made
	}
	var of []string
	for _, part := range parts[1:] {
		made.parts = append(made.parts, e.typedParts(part, types, all))
		of = append(of, made.parts[len(made.parts)-1].of)
	}
	made.of = e.formType(made.head, of)
	return made
}

// typedStatement tells all parts of a statement with their types, all found, and the statement first.
func typedStatement(s string, names []string, types []string) ([]*typedText, bool) {
	e := &equations{}
	given := map[string]string{}
	for i, name := range names {
		given[name] = types[i]
	}
	var all []*typedText
	e.typedParts(s, given, &all)
	var of []string
	for _, part := range all {
		of = append(of, part.of)
	}
	solved, ok := e.solve(of)
	if !ok {
		return nil, false
	}
	for i, part := range all {
		part.of = solved[i]
	}
	return all, true
}

// A meaning asks for all bits of all parts, one by one, as the document tells it; so it gives up where they are too many.
type meaning struct {
	n     int
	sizes map[string]int
	left  int // statements that may still be asked
}

func (m *meaning) size(of string) int {
	if m.sizes[of] == 0 {
		m.sizes[of] = setSize(of, m.n)
	}
	return m.sizes[of]
}

// with adds the value of what is bound.
func with(values map[string][]int, name string, value []int) map[string][]int {
	inner := maps.Clone(values)
	inner[name] = value
	return inner
}

// statement tells the bit of a statement. The values are bits for covariables, and one number for variables.
func (m *meaning) statement(s *typedText, values map[string][]int) int {
	m.left--
	if m.left < 0 {
		return 0
	}
	var bits []int
	for element := range m.size(s.parts[1].of) {
		bits = append(bits, m.coterm(s.parts[1], values, element))
	}
	return m.term(s.parts[0], values, bits)
}

func (m *meaning) term(s *typedText, values map[string][]int, bits []int) int {
	if len(s.parts) == 0 {
		return bits[values[s.head][0]]
	}
	if s.head == "mu" {
		return m.statement(s.parts[0], with(values, s.bound, bits))
	}
	count := m.size(s.parts[len(s.parts)-1].of)
	switch s.head {
	case "pair":
		var first []int
		for i := range m.size(s.parts[0].of) {
			first = append(first, m.term(s.parts[1], values, bits[i*count:(i+1)*count]))
		}
		return m.term(s.parts[0], values, first)
	case "inl":
		return m.term(s.parts[0], values, bits[:count])
	case "inr":
		return m.term(s.parts[0], values, bits[len(bits)-count:])
	}
	number := 0
	for element := range count {
		number += m.coterm(s.parts[0], values, element) << element
	}
	return bits[number]
}

func (m *meaning) coterm(s *typedText, values map[string][]int, element int) int {
	if len(s.parts) == 0 {
		return values[s.head][element]
	}
	if s.head == "tmu" {
		return m.statement(s.parts[0], with(values, s.bound, []int{element}))
	}
	count := m.size(s.parts[0].of)
	switch s.head {
	case "case":
		if element < count {
			return m.coterm(s.parts[0], values, element)
		}
		return m.coterm(s.parts[1], values, element-count)
	case "fst":
		return m.coterm(s.parts[0], values, element/(m.size(s.of)/count))
	case "snd":
		return m.coterm(s.parts[0], values, element%count)
	}
	return m.term(s.parts[0], values, bitsText(element, count))
}

// bitsText tells the first bits of a number, the lowest one first.
func bitsText(number int, count int) []int {
	var bits []int
	for range count {
		bits = append(bits, number%2)
		number /= 2
	}
	return bits
}

// An asked is what is asked about the meaning of a statement.
type asked struct {
	s      string
	names  []string
	types  []string
	n      int
	values []int
}

func (a asked) at(values ...int) asked {
	a.values = values
	return a
}

func (a asked) bit() (int, bool)    { return impl.MeanBit(a.s, a.names, a.types, a.n, a.values) }
func (a asked) name() (int, bool)   { return impl.MeanName(a.s, a.names, a.types, a.n, a.values) }
func (a asked) list() ([]int, bool) { return impl.MeanList(a.s, a.names, a.types, a.n) }
func (a asked) count() (int, bool)  { return impl.MeanCount(a.s, a.names, a.types, a.n) }

// dual is what is asked of the dual by value, and so of the statement by name.
func (a asked) dual() asked {
	d := asked{s: dualText(a.s), n: a.n, values: a.values, types: duals(a.types)}
	for _, name := range a.names {
		d.names = append(d.names, dualText(name))
	}
	return d
}

// ranges tells how many values each name may have, 0 if there are too many to be any.
func (a asked) ranges() []int {
	var found []int
	for i, name := range a.names {
		size := setSize(a.types[i], a.n)
		if name[0] < 'x' {
			size = map[bool]int{true: 1 << min(size, 20), false: 0}[size <= 20]
		}
		found = append(found, size)
	}
	return found
}

// told tells whether there is a meaning at all; the names and types must be such.
func (a asked) told() ([]*typedText, bool) {
	if programKind(a.s) != "statement" || a.n < 1 || a.n > 3 || len(a.names) != len(a.types) {
		return nil, false
	}
	for _, name := range programFree(a.s) {
		if !slices.Contains(a.names, name) {
			return nil, false
		}
	}
	parts, ok := typedStatement(a.s, a.names, a.types)
	if !ok {
		return nil, false
	}
	for _, part := range parts[1:] {
		if part.of != "" && setSize(part.of, a.n) > 300 {
			return nil, false
		}
	}
	for _, of := range a.types {
		if setSize(of, a.n) > 300 {
			return nil, false
		}
	}
	return parts, true
}

// bitText tells the bit, whether there is one, and whether it could be found.
func (a asked) bitText() (int, bool, bool) {
	parts, ok := a.told()
	ranges := a.ranges()
	if !ok || len(a.values) != len(ranges) {
		return 0, false, true
	}
	values := map[string][]int{}
	for i, name := range a.names {
		if a.values[i] < 0 || a.values[i] >= ranges[i] {
			return 0, false, true
		}
		values[name] = []int{a.values[i]}
		if name[0] < 'x' {
			values[name] = bitsText(a.values[i], setSize(a.types[i], a.n))
		}
	}
	m := &meaning{n: a.n, sizes: map[string]int{}, left: 20000}
	bit := m.statement(parts[0], values)
	return bit, true, m.left >= 0
}

// allValues tells all values of the names in their order, the last one the fastest; none if they are too many.
func (a asked) allValues() [][]int {
	all := [][]int{nil}
	for _, count := range a.ranges() {
		var longer [][]int
		if len(all)*count > 5000 {
			return nil
		}
		for _, values := range all {
			for value := range count {
				longer = append(longer, append(slices.Clone(values), value))
			}
		}
		all = longer
	}
	return all
}

// someValues makes values that the names may have; 0 where there are none.
func (m *maker) someValues(a asked) asked {
	a.values = nil
	for _, count := range a.ranges() {
		a.values = append(a.values, m.below(max(count, 1)))
	}
	return a
}

// asked asks for the meaning of a program with its own names alone.
func (p typedProgram) asked(n int) asked {
	y := p.ownTyping()
	return asked{s: p.text, names: y.Names, types: y.Types, n: n}
}

// meant are many statements that mean something, at values for which that is told.
var meant = sync.OnceValue(func() []asked {
	m := &maker{state: 51}
	var found []asked
	add := func(a asked) {
		for range 3 {
			a = m.someValues(a)
			if _, ok := a.bit(); ok {
				found = append(found, a)
			}
		}
	}
	for _, deep := range []int{2, 3, 4, 5} {
		for _, p := range m.typedStatements(120, deep) {
			for _, n := range []int{1, 2, 3} {
				add(p.asked(n))
			}
		}
	}
	for _, s := range reducible() {
		y, ok := impl.TypeOf(s)
		if ok {
			add(asked{s: s, names: y.Names, types: y.Types, n: 2})
		}
	}
	return found
})
