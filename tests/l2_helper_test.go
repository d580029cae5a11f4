package tests

import (
	"regexp"
	"slices"
	"strconv"
	"strings"
)

// The names of made programs are few, so that many of them are captured, bound twice, and canonical.
var (
	fewVariables   = []string{"x", "x0", "x1", "y", "z2"}
	fewCovariables = []string{"k", "k0", "k1", "l", "m2"}
)

// In a shape T stands for a term, K for a coterm, S for a statement, M for a source term, v for a variable and c for a covariable.
var shapes = map[string][]string{
	"term":      {"v", "(pair T T)", "(inl T)", "(inr T)", "(not K)", "(mu c S)", "(mu c S)"},
	"coterm":    {"c", "(case K K)", "(fst K)", "(snd K)", "(neg T)", "(tmu v S)", "(tmu v S)"},
	"statement": {"(cut T K)"},
}

// program makes a program of a kind whose forms are at most so deep, one level more for cuts.
func (m *maker) program(kind string, deep int) string {
	shape := shapes[kind][m.below(len(shapes[kind]))]
	if deep <= 0 && kind != "statement" {
		shape = shapes[kind][0]
	}
	return m.fill(shape, deep)
}

// fill replaces what stands for a program or a name, behind the head.
func (m *maker) fill(shape string, deep int) string {
	head, parts, _ := strings.Cut(shape, " ")
	if parts == "" {
		head, parts = "", shape
	}
	var made strings.Builder
	for _, sign := range parts {
		switch sign {
		case 'T':
			made.WriteString(m.program("term", deep-1))
		case 'K':
			made.WriteString(m.program("coterm", deep-1))
		case 'S':
			made.WriteString(m.program("statement", deep-1))
		case 'M':
			made.WriteString(m.source(deep - 1))
		case 'v':
			made.WriteString(fewVariables[m.below(len(fewVariables))])
		case 'c':
			made.WriteString(fewCovariables[m.below(len(fewCovariables))])
		default:
			made.WriteRune(sign)
		}
	}
	return strings.TrimPrefix(head+" "+made.String(), " ")
}

// programs makes programs of all kinds in turn.
func (m *maker) programs(count int, deep int) []string {
	var made []string
	for i := range count {
		kind := []string{"term", "coterm", "statement"}[i%3]
		if s := m.program(kind, deep); programKind(s) != "" {
			made = append(made, s)
		}
	}
	return made
}

var (
	nameText  = regexp.MustCompile(`^[xyzklm][0-9]{0,3}$`)
	tokenText = regexp.MustCompile(`[()]|[^() ]+`)
	termForm  = regexp.MustCompile(`\((pair [VT] [VT]|inl [VT]|inr [VT]|not [CK]|mu C S)\)`)
	coForm    = regexp.MustCompile(`\((case [CK] [CK]|fst [CK]|snd [CK]|neg [VT]|tmu V S)\)`)
	cutForm   = regexp.MustCompile(`\(cut [VT] [CK]\)`)
)

// programKind tells by rewriting the text, without a tree, which kind of program it is.
func programKind(s string) string {
	if len(s) > 6000 || len(atomText.FindAllString(s, -1)) > 500 || nesting(s) > 200 || strings.ContainsAny(s, "VCTKS") {
		return ""
	}
	s = namesAsSigns(s)
	for {
		shorter := cutForm.ReplaceAllString(coForm.ReplaceAllString(termForm.ReplaceAllString(s, "T"), "K"), "S")
		if shorter == s {
			return map[string]string{"V": "term", "T": "term", "C": "coterm", "K": "coterm", "S": "statement"}[s]
		}
		s = shorter
	}
}

// programOnly leaves out a text that is no program.
func programOnly(s string) string {
	if programKind(s) == "" {
		return ""
	}
	return s
}

// namesAsSigns writes V for each variable and C for each covariable.
func namesAsSigns(s string) string {
	return atomText.ReplaceAllStringFunc(s, func(atom string) string {
		switch {
		case !nameText.MatchString(atom):
			return atom
		case atom[0] >= 'x':
			return "V"
		}
		return "C"
	})
}

// nesting tells how many parentheses are within each other.
func nesting(s string) int {
	open, most := 0, 0
	for _, sign := range s {
		switch sign {
		case '(':
			open++
		case ')':
			open--
		}
		most = max(most, open)
	}
	return most
}

// join makes a text of tokens.
func join(tokens []string) string {
	s := strings.Join(tokens, " ")
	return strings.ReplaceAll(strings.ReplaceAll(s, "( ", "("), " )", ")")
}

// numberBound writes x#0, x#1 or k#0, k#1 for what is bound, in the order in which it is bound. What is free stays.
func numberBound(tokens []string) []string {
	type binding struct {
		name, as string
		depth    int
	}
	var bindings []binding
	counts := map[string]int{}
	depth := 0
	numbered := slices.Clone(tokens)
	for i, token := range tokens {
		switch {
		case token == "(":
			depth++
		case token == ")":
			bindings = slices.DeleteFunc(bindings, func(b binding) bool { return b.depth == depth })
			depth--
		case i > 0 && (tokens[i-1] == "mu" || tokens[i-1] == "tmu"):
			class := map[string]string{"mu": "k", "tmu": "x"}[tokens[i-1]]
			numbered[i] = class + "#" + strconv.Itoa(counts[class])
			counts[class]++
			bindings = append(bindings, binding{token, numbered[i], depth})
		default:
			for _, b := range bindings {
				if b.name == token {
					numbered[i] = b.as
				}
			}
		}
	}
	return numbered
}

// freeTokens returns the names that are free, as often as they stand there.
func freeTokens(tokens []string) []string {
	return slices.DeleteFunc(numberBound(tokens), func(token string) bool { return !nameText.MatchString(token) })
}

// programFree tells from the text of a program what is free in it, as often as it stands there.
func programFree(s string) []string {
	return freeTokens(tokenText.FindAllString(s, -1))
}

// once leaves out what stands in a list again.
func once(list []string) []string {
	var found []string
	for _, s := range list {
		if !slices.Contains(found, s) {
			found = append(found, s)
		}
	}
	return found
}

// count tells how often s stands in a list.
func count(list []string, s string) int {
	n := 0
	for _, other := range list {
		if other == s {
			n++
		}
	}
	return n
}

// canonText tells from tokens what the canonical program is.
func canonText(tokens []string) string {
	free := freeTokens(tokens)
	numbered := numberBound(tokens)
	for i, token := range numbered {
		class, number, bound := strings.Cut(token, "#")
		if bound {
			numbered[i] = notFree(class, number, free)
		}
	}
	return join(numbered)
}

// notFree returns the canonical name of a number, counted without the free ones.
func notFree(class string, number string, free []string) string {
	left, _ := strconv.Atoi(number)
	for n := 0; ; n++ {
		s := class + strconv.Itoa(n)
		if slices.Contains(free, s) {
			continue
		}
		if left == 0 {
			return s
		}
		left--
	}
}

// putText puts by for each free place of a name, all bound names made different ahead of this.
func putText(s string, name string, by string) string {
	var tokens []string
	for i, token := range numberBound(tokenText.FindAllString(s, -1)) {
		if token != name {
			tokens = append(tokens, token)
			continue
		}
		for _, inner := range numberBound(tokenText.FindAllString(by, -1)) {
			if strings.Contains(inner, "#") {
				inner += "#" + strconv.Itoa(i)
			}
			tokens = append(tokens, inner)
		}
	}
	return canonText(tokens)
}

// putPlainly puts by for each free place of a name, and lets names be captured.
func putPlainly(s string, name string, by string) string {
	tokens := tokenText.FindAllString(s, -1)
	for i, token := range numberBound(tokens) {
		if token == name {
			tokens[i] = by
		}
	}
	return join(tokens)
}

var dualHeads = map[string]string{"pair": "case", "case": "pair", "inl": "fst", "fst": "inl", "inr": "snd", "snd": "inr", "not": "neg", "neg": "not", "mu": "tmu", "tmu": "mu"}

var dualNames = strings.NewReplacer("x", "k", "y", "l", "z", "m", "k", "x", "l", "y", "m", "z")

// dualText tells from the text of a program what its dual is.
func dualText(s string) string {
	if !strings.HasPrefix(s, "(") {
		return dualNames.Replace(s)
	}
	parts := textParts(s)
	for i, part := range parts[1:] {
		parts[1+i] = dualText(part)
	}
	if parts[0] == "cut" {
		return "(cut " + parts[2] + " " + parts[1] + ")"
	}
	parts[0] = dualHeads[parts[0]]
	return "(" + strings.Join(parts, " ") + ")"
}

// textParts returns the texts of what stands between the outermost parentheses.
func textParts(s string) []string {
	var parts []string
	depth, begin := 0, 1
	for i, sign := range s {
		switch {
		case sign == '(':
			depth++
		case sign == ')':
			depth--
		}
		if sign == ' ' && depth == 1 || depth == 0 {
			parts = append(parts, s[begin:i])
			begin = i + 1
		}
	}
	return parts
}

// around puts a text so often between what stands ahead of it and behind it.
func around(count int, ahead string, s string, behind string) string {
	return strings.Repeat(ahead, count) + s + strings.Repeat(behind, count)
}

// tree joins texts by a head in a tree that is not deep: n texts and n-1 heads.
func tree(head string, texts []string) string {
	if len(texts) == 1 {
		return texts[0]
	}
	half := len(texts) / 2
	return "(" + head + " " + tree(head, texts[:half]) + " " + tree(head, texts[half:]) + ")"
}
