package tests

import (
	"regexp"
	"slices"
	"strconv"
	"strings"
	"sync"

	"loop.example/classicalcontrol/impl"
)

var lineShape = regexp.MustCompile(`(?s)^(?:(set|source|prove|step|run|machine) (.*)|(dual|show|types))$`)

// scriptText tells the output of a script from its text.
func scriptText(text string) string {
	if len(text) > 900 {
		return "too long\n"
	}
	statement, output := "(cut x k)", ""
	lines := strings.Split(text, "\n")
	for _, line := range lines[:len(lines)-1] {
		var told string
		told, statement = lineText(line, statement)
		output += told + "\n"
	}
	return output + atomsText(statement)
}

// atomsText is the last line of a script with which the statement is this one.
func atomsText(statement string) string {
	return "atoms " + strconv.Itoa(len(atomText.FindAllString(statement, -1))) + "\n"
}

// lineText tells of a line what is printed, and the statement behind it.
func lineText(line string, statement string) (string, string) {
	found := lineShape.FindStringSubmatch(line)
	if found == nil {
		return "what", statement
	}
	told, next := "ok", statement
	switch word, rest := found[1]+found[3], found[2]; word {
	case "show":
		told = statement
	case "types":
		told = typesText(statement)
	case "machine":
		told = endText(rest)
	case "run":
		told, next = endOfRun(rest, statement)
	default:
		next = nextText(word, rest, statement)
	}
	if told == "" || next == "" {
		return "no", statement
	}
	return told, next
}

// nextText tells what a line makes of a statement, "" if it fails.
func nextText(word string, rest string, statement string) string {
	switch {
	case word == "set" && programKind(rest) == "statement":
		return rest
	case word == "source" && isSource(rest):
		return machineStatement(rest)
	case word == "prove":
		proof, _ := proofText(nil, []string{rest})
		return proof
	case word == "step" && kinds[rest] != "":
		next, _ := stepText(rest, statement)
		return programOnly(next)
	case word == "dual":
		return dualText(statement)
	}
	return ""
}

// endOfRun tells the steps of a run and its end, "" for both if there is none.
func endOfRun(kind string, statement string) (string, string) {
	if kinds[kind] == "" {
		return "", ""
	}
	r := runText(kind, statement, 300)
	if !r.stuck {
		return "", ""
	}
	return strconv.Itoa(r.steps), canonOfText(r.end)
}

// endText tells how the machine ends for a text, "" if it does not.
func endText(s string) string {
	if !isSource(s) {
		return ""
	}
	run, ok := machineText(s)
	if !ok {
		return ""
	}
	if run.End == "" {
		run.End = "end"
	}
	return run.End + " " + run.Shape
}

// typesText tells the names and types of a statement, "" if it has no typing.
func typesText(statement string) string {
	y, ok := typingText(statement)
	if !ok {
		return ""
	}
	return typingLine(y)
}

// typingLine writes a typing in one line.
func typingLine(y impl.Typing) string {
	if len(y.Names) == 0 {
		return "none"
	}
	line := ""
	for i, name := range y.Names {
		line += "; " + name + ":" + y.Types[i]
	}
	return strings.TrimPrefix(line, "; ")
}

// shorter leaves out texts of more bytes, and those that have newlines.
func shorter(texts []string, bytes int) []string {
	var short []string
	for _, s := range texts {
		if len(s) <= bytes && !strings.Contains(s, "\n") {
			short = append(short, s)
		}
	}
	return short
}

// lineRests are many texts that may stand behind the words, of which each word takes some.
var lineRests = sync.OnceValue(func() map[string][]string {
	m := &maker{state: 102}
	statements := slices.Concat(shorter(reducible(), 300), shorter(m.unused(100, 2), 200))
	sources := shorter(someMachines(), 200)
	formulas := slices.Concat(shorter(somethingValid(), 120), shorter(someFormulas(), 120))
	return map[string][]string{
		"set": statements, "source": sources, "machine": sources, "prove": formulas, "step": {"value", "name"}, "run": {"value", "name"},
		"wrong": slices.Concat(shorter(wrongPrograms(), 60), shorter(wrongSources(), 60), shorter(wrongFormulas(), 60), shorter(somePrograms(), 60), []string{"values", "Name", "by value", "value name"}),
	}
})

// otherLines are lines that are none of those of the words.
var otherLines = []string{
	"", " ", "  ", "\t", "\r", "\x00", "\xff", "\xff\xfe", "\xc3", "é", "\u2028", "\u0085", "zzz", "what", "ok", "no", "none", "end", "atoms", "atoms 3", "too long", "x", "0", "(cut x k)", "(cut y l)", "value", "name", "x:a; k:a",
	"s", "se", "sets", "sett", "sets (cut y l)", "sources x", "sourc x", "proves a", "prov a", "steps value", "ste value", "runs value", "ru value", "machines x", "machin x", "duals", "dua", "shows", "sho", "type", "typess", "help", "quit", "undo", "put x y", "long", "typeof",
	"SET (cut y l)", "Set (cut y l)", "sET (cut y l)", "SOURCE x", "Source x", "PROVE (+ a (- a))", "Prove (+ a (- a))", "STEP value", "Step value", "RUN name", "Run name", "MACHINE x", "Machine x", "DUAL", "Dual", "SHOW", "Show", "shoW", "TYPES", "Types",
	" set (cut y l)", " source x", " prove (+ a (- a))", " step value", " run name", " machine x", " dual", " show", " types", "  show", "\tset (cut y l)", "\tsource x", "\tprove (+ a (- a))", "\tstep value", "\trun name", "\tmachine x", "\tdual", "\tshow", "\ttypes",
	"set\t(cut y l)", "source\tx", "prove\t(+ a (- a))", "step\tvalue", "run\tname", "machine\tx", "set(cut y l)", "source(lam x x)", "prove(+ a (- a))", "stepvalue", "runname", "machinex", "machine(lam x x)", "set\u00a0(cut y l)", "set\x00", "set\x00(cut y l)",
	"dual\t", "show\t", "types\t", "dual\r", "show\r", "types\r", "dual\x00", "show\x00", "types\x00", "show\xff", "\xffshow", "\ufeffshow", "dualdual", "show;show", "show,dual", "\rshow", "\vshow", "show\f",
	"set", "source", "prove", "step", "run", "machine", "set\r", "source\r", "prove\r", "step\r", "run\r", "machine\r", "dual ", "show ", "types ", "dual  ", "show  ", "types  ", "dual x", "show x", "types x", "dual (cut y l)", "show (cut y l)", "types (cut y l)", "dual value", "show value", "types value", "show show", "dual dual", "types types", "show \r", "dual \xff",
}

// line makes a line, most of them of the words.
func (m *maker) line() string {
	rests := lineRests()
	words := []string{"set", "set", "source", "prove", "step", "step", "step", "run", "run", "machine", "machine", "dual", "show", "show", "types", "types"}
	word := words[m.below(len(words))]
	some := rests[word]
	switch m.below(16) {
	case 0:
		return otherLines[m.below(len(otherLines))]
	case 1:
		some = rests["wrong"]
	case 2:
		return word + []string{"", " ", "  ", "\t"}[m.below(4)] + append(some, "")[m.below(len(some)+1)] + []string{"", " ", "\r"}[m.below(3)]
	}
	if rests[word] == nil {
		return word
	}
	return word + " " + some[m.below(len(some))]
}

// script makes a script of complete lines with at most so many bytes, often nearly as many.
func (m *maker) script(most int) string {
	text := ""
	for range m.below(40) {
		if line := m.line(); len(text)+len(line) < most {
			text += line + "\n"
		}
	}
	return text
}

// scripts are many that have room for 10 bytes more.
var scripts = sync.OnceValue(func() []string {
	m := &maker{state: 103}
	some := []string{"", "\n", "show\n", "dual\n", "set (cut x k)\n", strings.Repeat("\n", 890), strings.Repeat("dual\n", 178), strings.Repeat("show\n", 177) + "zzz\n", strings.Repeat("x", 889) + "\n"}
	for range 1500 {
		some = append(some, m.script(890))
	}
	return some
})

// outputLines are the lines of an output without the last one, and the last one.
func outputLines(output string) (string, string) {
	ahead := strings.TrimSuffix(output, "\n")
	i := strings.LastIndex(ahead, "\n") + 1
	return output[:i], output[i:]
}
