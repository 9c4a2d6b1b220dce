package format

import (
	"iter"
	"strconv"
	"strings"

	"wordset/api"
	"wordset/names"
)

// place is where a text is: which of a file's lines comes next.
type place int

const (
	opsLine place = iota
	titleLine
	statesLine
	finalLine
	transitionsLine
	ruleLine
)

// reader is what has been read of a file.
type reader struct {
	at     place
	title  string
	ops    series[api.Op]
	states series[string]
	final  []int
	rules  series[api.Rule]
}

// read gives the content of a text that the grammar has taken.
func read(text string) api.File {
	var r reader
	for line := range cut(text, isNoFeed) {
		r.take(piecesOf(line))
	}
	return api.File{
		Title:  r.title,
		Ops:    r.ops.list,
		States: r.states.list,
		Final:  named(rising(r.final), r.states.list),
		Rules:  r.rules.list,
	}
}

// cut goes through the pieces of a text that are made of such bytes alone, each as long as it can be.
func cut(text string, holds func(string) bool) iter.Seq[string] {
	return func(yield func(string) bool) {
		start := 0
		for i := range len(text) + 1 {
			if i < len(text) && holds(text[i:i+1]) {
				continue
			}
			if start < i && !yield(text[start:i]) {
				return
			}
			start = i + 1
		}
	}
}

func isNoFeed(b string) bool { return b != "\n" }

// piecesOf gives a line's words, names and arities. The grammar has been asked already, so every other byte does nothing but keep them apart.
func piecesOf(line string) []string {
	var pieces []string
	for piece := range cut(line, names.Valid) {
		// A copy, lest a content keep its whole text alive.
		pieces = append(pieces, strings.Clone(piece))
	}
	return pieces
}

// take reads a line by its pieces; an empty one leaves the text where it is.
func (r *reader) take(line []string) {
	if len(line) == 0 {
		return
	}
	switch r.at {
	case opsLine:
		r.takeOps(line[1:])
	case titleLine:
		r.title = line[1]
	case statesLine:
		r.takeStates(line[1:])
	case finalLine:
		r.final = r.takeStates(line[2:])
	case ruleLine:
		r.takeRule(line)
		return
	}
	r.at++
}

// takeOps reads ops, each two pieces: a name, and its arity.
func (r *reader) takeOps(line []string) {
	for i := 0; i < len(line); i += 2 {
		r.ops.add(api.Op{Name: line[i], Arity: int(line[i+1][0] - '0')})
	}
}

func (r *reader) takeStates(line []string) []int {
	numbers := make([]int, len(line))
	for i, name := range line {
		numbers[i] = r.states.add(name)
	}
	return numbers
}

// takeRule reads a rule: two pieces if the brackets are empty, else three.
func (r *reader) takeRule(line []string) {
	rule := api.Rule{Op: line[0], To: line[len(line)-1]}
	if len(line) == 3 {
		rule.From = line[1]
	}
	r.ops.add(opOf(rule))
	r.takeStates(line[1:])
	r.rules.add(rule)
}

// write gives the canonical text of a content that may be.
func write(f api.File) string {
	var b strings.Builder
	b.WriteString("Ops")
	for _, op := range f.Ops {
		b.WriteString(" " + op.Name + ":" + strconv.Itoa(op.Arity))
	}
	b.WriteString("\nAutomaton " + f.Title + "\nStates")
	writeNames(&b, f.States)
	b.WriteString("\nFinal States")
	writeNames(&b, f.Final)
	b.WriteString("\nTransitions\n")
	for _, r := range f.Rules {
		b.WriteString(r.Op + "(" + r.From + ") -> " + r.To + "\n")
	}
	return b.String()
}

func writeNames(b *strings.Builder, list []string) {
	for _, name := range list {
		b.WriteString(" " + name)
	}
}
