package formats

import (
	"math"
	"slices"
	"strings"

	"wordset/api"
	"wordset/format"
	"wordset/names"
)

const (
	baTitle = "ba"    // the title of a content that was read
	startOp = "start" // its op of arity 0, which marks the start states
	noEdge  = ","     // the line that stands in the place of the edge lines
)

// hasBA tells whether a content that may be has a BA form: a start state, and a line for each state and symbol.
func hasBA(f api.File) bool {
	starts := 0
	states, symbols := map[string]int{}, map[string]int{}
	for _, r := range f.Rules {
		states[r.To]++
		if r.From == "" {
			starts++
		} else {
			states[r.From]++
			symbols[r.Op]++
		}
	}
	for _, name := range f.Final {
		states[name]++
	}
	// What is used was declared: so all are used if as many are.
	allStates, allSymbols, _ := format.Count(f)
	return starts > 0 && len(states) == allStates && len(symbols) == allSymbols
}

// baOf gives the BA form of a content that has one.
func baOf(f api.File) string {
	lines := startsOf(f)
	ahead := len(lines)
	for _, r := range f.Rules {
		if r.From != "" {
			lines = append(lines, r.Op+","+r.From+"->"+r.To)
		}
	}
	if len(lines) == ahead {
		lines = append(lines, noEdge)
	}
	lines = append(lines, f.Final...)
	return strings.Join(lines, "\n") + "\n"
}

// kind is what a line of the BA form is.
type kind int

const (
	noLine kind = iota // ahead of the first line
	startLine
	edgeLine
	noEdgeLine
	finalLine
)

// baLine is a line among those of its kind.
type baLine struct {
	kind kind
	text string
}

// baReader is what has been read of a text in the BA form.
type baReader struct {
	last            kind
	stood           map[baLine]int
	states, symbols *names.Table
	final           []int
	rules           []api.Rule
}

func newBAReader() *baReader {
	// The form sets no bound to its names.
	states, _ := names.New(math.MaxInt)
	symbols, _ := names.New(math.MaxInt)
	return &baReader{stood: map[baLine]int{}, states: states, symbols: symbols}
}

// read takes all lines of a text, and tells the number of the first that may not stand there, or 0.
func (r *baReader) read(text string) int {
	number := 1
	for line := range strings.Lines(text) {
		if !r.take(strings.TrimSuffix(line, "\n")) {
			return number
		}
		number++
	}
	if r.last <= startLine {
		return number
	}
	return 0
}

// take reads a line, if it may stand behind those that were read.
func (r *baReader) take(text string) bool {
	line := baLine{kind: r.kindOf(text), text: text}
	if _, twice := r.stood[line]; twice || !r.mayFollow(line.kind) {
		return false
	}
	r.last = line.kind
	r.stood[line]++
	switch line.kind {
	case startLine:
		return r.takeStart(text)
	case edgeLine:
		return r.takeEdge(text)
	case finalLine:
		return r.takeFinal(text)
	}
	return true
}

// kindOf tells what a line would be, if it may stand here: a name alone is a start line till one with a comma has come, and a final line from there on.
func (r *baReader) kindOf(text string) kind {
	switch {
	case text == noEdge:
		return noEdgeLine
	case strings.Contains(text, ","):
		return edgeLine
	case r.last <= startLine:
		return startLine
	}
	return finalLine
}

// mayFollow asks for the order of the kinds; kindOf has settled it for names.
func (r *baReader) mayFollow(next kind) bool {
	switch next {
	case edgeLine:
		return r.last == startLine || r.last == edgeLine
	case noEdgeLine:
		return r.last == startLine
	}
	return true
}

func (r *baReader) takeStart(text string) bool {
	_, to, ok := enter(r.states, text)
	r.rules = append(r.rules, api.Rule{Op: startOp, To: to})
	return ok
}

func (r *baReader) takeEdge(text string) bool {
	sym, ends, _ := strings.Cut(text, ",")
	from, to, _ := strings.Cut(ends, "->")
	_, sym, okSym := enter(r.symbols, sym)
	_, from, okFrom := enter(r.states, from)
	_, to, okTo := enter(r.states, to)
	r.rules = append(r.rules, api.Rule{Op: sym, From: from, To: to})
	return okSym && okFrom && okTo
}

func (r *baReader) takeFinal(text string) bool {
	n, _, ok := enter(r.states, text)
	r.final = append(r.final, n)
	return ok
}

// enter puts a name into a table and tells its number and the table's own copy, lest a content keep its whole text alive.
func enter(t *names.Table, text string) (int, string, bool) {
	n, err := t.Add(text)
	if err != api.OK {
		return 0, "", false
	}
	name, err := t.Name(n)
	return n, name, err == api.OK
}

// content gives the content of all that was read.
func (r *baReader) content() api.File {
	f := api.File{Title: baTitle, Ops: []api.Op{{Name: startOp}}, States: r.states.List(), Rules: r.rules}
	for _, name := range r.symbols.List() {
		f.Ops = append(f.Ops, api.Op{Name: name, Arity: 1})
	}
	slices.Sort(r.final)
	for _, n := range r.final {
		f.Final = append(f.Final, f.States[n])
	}
	return f
}
