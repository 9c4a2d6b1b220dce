package formats

import (
	"cmp"
	"strconv"
	"strings"

	"wordset/api"
	"wordset/format"
	"wordset/names"
)

// inOrder goes by way of a content, as format settles there which automata may be, and answers them in order. (Where a number of names is out of range, the automaton may not be: From says so ahead of all else.)
func inOrder(a api.Auto) (api.Auto, api.Errno) {
	states, _ := names.Numbered("q", a.States)
	symbols, _ := names.Numbered("s", a.Symbols)
	f, err := format.From(a, states, symbols, "line")
	if err != api.OK {
		return api.Auto{}, err
	}
	ordered, _, _, err := format.Auto(f)
	return ordered, err
}

// lineOf gives the line of an automaton that is in order.
func lineOf(a api.Auto) string {
	edges := make([]string, len(a.Edges))
	for i, e := range a.Edges {
		edges[i] = spaced(e.From, e.Sym, e.To)
	}
	return strings.Join([]string{
		spaced(a.States, a.Symbols), spaced(a.Start...), spaced(a.Final...), strings.Join(edges, ","),
	}, ";")
}

func spaced(numbers ...int) string {
	texts := make([]string, len(numbers))
	for i, n := range numbers {
		texts[i] = strconv.Itoa(n)
	}
	return strings.Join(texts, " ")
}

// textEnd is what stands behind the last item of a text.
const textEnd = ""

// lineReader reads a line of numbers. It never goes past an item that may not stand there: where it stops, the text is wrong.
type lineReader struct {
	text string
	at   int
	auto api.Auto
	edge api.Edge
}

// taker takes a number, or tells that it may not stand where it is wanted.
type taker func(n int) bool

// rows are any number of rows of numbers, what stands between each two, and what stands behind the last.
type rows struct {
	row          []taker
	between, end string
}

func (r *lineReader) read() bool {
	if !r.row(r.takeStates, r.takeSymbols) || !r.pass(";") {
		return false
	}
	wanted := [...]rows{
		{row: []taker{r.takeStart}, between: " ", end: ";"},
		{row: []taker{r.takeFinal}, between: " ", end: ";"},
		{row: []taker{r.takeFrom, r.takeSym, r.takeTo}, between: ",", end: textEnd},
	}
next:
	for _, w := range wanted {
		if r.pass(w.end) {
			continue
		}
		for r.row(w.row...) {
			if r.pass(w.end) {
				continue next
			}
			if !r.passBetween(w.between) {
				return false
			}
		}
		return false
	}
	return true
}

// row reads a number for each taker, with a blank between each two.
func (r *lineReader) row(takers ...taker) bool {
	for i, take := range takers {
		if i > 0 && !r.pass(" ") {
			return false
		}
		item := r.item()
		n, ok := numberOf(item)
		if !ok || !take(n) {
			return false
		}
		r.at += len(item)
	}
	return true
}

// passBetween goes past what stands between two rows: there is none behind the last edge that an automaton may have.
func (r *lineReader) passBetween(item string) bool {
	return len(r.auto.Edges) < api.MaxEdges && r.pass(item)
}

// pass goes past the next item, if it is this one.
func (r *lineReader) pass(item string) bool {
	if r.item() != item {
		return false
	}
	r.at += len(item)
	return true
}

// item gives the next item: the longest run of digits, or one other byte.
func (r *lineReader) item() string {
	rest := r.text[r.at:]
	n := 0
	for n < len(rest) && '0' <= rest[n] && rest[n] <= '9' {
		n++
	}
	if n == 0 {
		n = min(1, len(rest))
	}
	return rest[:n]
}

// numberOf gives the number that an item is; one too great for an int is out of every range.
func numberOf(item string) (int, bool) {
	if len(item) > 1 && item[0] == '0' {
		return 0, false
	}
	n, err := strconv.Atoi(item)
	return n, err == nil
}

func (r *lineReader) takeStates(n int) bool {
	r.auto.States = n
	return n <= api.MaxStates
}

func (r *lineReader) takeSymbols(n int) bool {
	r.auto.Symbols = n
	return n <= api.MaxSymbols
}

func (r *lineReader) takeStart(n int) bool { return r.takeState(&r.auto.Start, n) }

func (r *lineReader) takeFinal(n int) bool { return r.takeState(&r.auto.Final, n) }

// takeState puts a state at the end of a list that rises.
func (r *lineReader) takeState(list *[]int, n int) bool {
	if last := len(*list) - 1; n >= r.auto.States || last >= 0 && n <= (*list)[last] {
		return false
	}
	*list = append(*list, n)
	return true
}

func (r *lineReader) takeFrom(n int) bool {
	r.edge.From = n
	return n < r.auto.States
}

func (r *lineReader) takeSym(n int) bool {
	r.edge.Sym = n
	return n < r.auto.Symbols
}

func (r *lineReader) takeTo(n int) bool {
	r.edge.To = n
	edges := r.auto.Edges
	if last := len(edges) - 1; n >= r.auto.States || last >= 0 && compareEdges(r.edge, edges[last]) <= 0 {
		return false
	}
	r.auto.Edges = append(edges, r.edge)
	return true
}

func compareEdges(a, b api.Edge) int {
	return cmp.Or(cmp.Compare(a.From, b.From), cmp.Compare(a.Sym, b.Sym), cmp.Compare(a.To, b.To))
}
