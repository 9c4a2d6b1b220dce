package formats_test

import (
	"fmt"
	"math/rand/v2"
	"regexp"
	"slices"
	"strconv"
	"strings"
	"unsafe"

	"wordset/api"
)

// text is a text with ";" for line feeds, as in the document's examples of the BA form.
func text(s string) string { return strings.ReplaceAll(s, ";", "\n") }

func letters(n int) string { return strings.Repeat("n", n) }

func numbered(head string, n int) []string {
	list := make([]string, n)
	for i := range list {
		list[i] = fmt.Sprint(head, i)
	}
	return list
}

// same compares contents; empty lists may be nil.
func same(a, b api.File) bool {
	return a.Title == b.Title && slices.Equal(a.Ops, b.Ops) && slices.Equal(a.States, b.States) && slices.Equal(a.Final, b.Final) && slices.Equal(a.Rules, b.Rules)
}

func isNothing(f api.File) bool {
	return f.Title == "" && f.Ops == nil && f.States == nil && f.Final == nil && f.Rules == nil
}

// drawnAuto draws an automaton, its lists in no order and with doubles.
func drawnAuto(r *rand.Rand, states, symbols int) api.Auto {
	a := api.Auto{States: r.IntN(states + 1), Symbols: r.IntN(symbols + 1)}
	if a.States == 0 {
		return a
	}
	for range r.IntN(6) {
		a.Start = append(a.Start, r.IntN(a.States))
	}
	for range r.IntN(6) {
		a.Final = append(a.Final, r.IntN(a.States))
	}
	for range r.IntN(12) * min(a.Symbols, 1) {
		a.Edges = append(a.Edges, api.Edge{From: r.IntN(a.States), Sym: r.IntN(a.Symbols), To: r.IntN(a.States)})
	}
	return a
}

// modelLine writes an automaton's lists as they stand.
func modelLine(a api.Auto) string {
	list := func(numbers []int) string { return strings.Trim(fmt.Sprint(numbers), "[]") }
	var edges []string
	for _, e := range a.Edges {
		edges = append(edges, fmt.Sprintf("%d %d %d", e.From, e.Sym, e.To))
	}
	return fmt.Sprintf("%d %d;%s;%s;%s", a.States, a.Symbols, list(a.Start), list(a.Final), strings.Join(edges, ","))
}

var (
	lineItem  = regexp.MustCompile(`(?s)[0-9]+|.`)
	numbers   = strings.NewReplacer("N", `(0|[1-9][0-9]*)`, "SOME", `((0|[1-9][0-9]*)( (0|[1-9][0-9]*))*)?`, "OPEN", `((0|[1-9][0-9]*)( (0|[1-9][0-9]*))* ?)?`)
	wholeLine = regexp.MustCompile(numbers.Replace(`\AN N;SOME;SOME;(N N N(,N N N)*)?\z`))
	lineHead  = regexp.MustCompile(numbers.Replace(`\A(|N|N |N N|N N;OPEN|N N;SOME;OPEN|N N;SOME;SOME;(N N N,)*(N|N |N N|N N |N N N)?)\z`))
)

// modelOffset gives the offset at which a text is no line, or -1.
func modelOffset(s string) int {
	for _, at := range lineItem.FindAllStringIndex(s, -1) {
		if ahead := s[:at[1]]; !lineHead.MatchString(ahead) || !numbersMayBe(ahead) {
			return at[0]
		}
	}
	if !wholeLine.MatchString(s) {
		return len(s)
	}
	return -1
}

func numbersOf(s string) []int {
	var list []int
	for _, item := range strings.Fields(s) {
		n, err := strconv.Atoi(item)
		if err != nil {
			n = 1 << 62
		}
		list = append(list, n)
	}
	return list
}

// numbersMayBe looks at the numbers of a text that has the form of a line's beginning.
func numbersMayBe(s string) bool {
	parts := append(strings.Split(s, ";"), "", "", "")
	head := append(numbersOf(parts[0]), 0, 0)
	states, symbols := head[0], head[1]
	for _, list := range [][]int{numbersOf(parts[1]), numbersOf(parts[2])} {
		for i, n := range list {
			if n >= states || i > 0 && n <= list[i-1] {
				return false
			}
		}
	}
	edges := strings.Split(parts[3], ",")
	for i, edge := range edges {
		now := numbersOf(edge)
		for k, n := range now {
			if n >= []int{states, symbols, states}[k] {
				return false
			}
		}
		if i > 0 && len(now) == 3 && slices.Compare(now, numbersOf(edges[i-1])) <= 0 {
			return false
		}
	}
	return states <= api.MaxStates && symbols <= api.MaxSymbols && len(edges) <= api.MaxEdges
}

// modelAuto gives the automaton of a text that is a line.
func modelAuto(s string) api.Auto {
	parts := strings.Split(s, ";")
	head := numbersOf(parts[0])
	a := api.Auto{States: head[0], Symbols: head[1], Start: numbersOf(parts[1]), Final: numbersOf(parts[2])}
	for _, edge := range strings.Split(parts[3], ",") {
		if e := numbersOf(edge); len(e) == 3 {
			a.Edges = append(a.Edges, api.Edge{From: e[0], Sym: e[1], To: e[2]})
		}
	}
	return a
}

// drawnContent draws a content that may be, out of few names.
func drawnContent(r *rand.Rand) api.File {
	f := api.File{Title: "t"}
	one := func(n int) bool { return r.IntN(n) == 0 }
	for _, name := range []string{"p", "q", "r'", "start", letters(16)} {
		if one(2) {
			f.States = append(f.States, name)
		}
	}
	r.Shuffle(len(f.States), func(i, j int) { f.States[i], f.States[j] = f.States[j], f.States[i] })
	for _, name := range f.States {
		if one(2) {
			f.Final = append(f.Final, name)
		}
	}
	for _, name := range []string{"a", "b", "start", "p"} {
		if one(2) {
			f.Ops = append(f.Ops, api.Op{Name: name})
		}
		if one(2) {
			f.Ops = append(f.Ops, api.Op{Name: name, Arity: 1})
		}
	}
	r.Shuffle(len(f.Ops), func(i, j int) { f.Ops[i], f.Ops[j] = f.Ops[j], f.Ops[i] })
	scarce := 1 + r.IntN(8)
	for _, op := range f.Ops {
		for _, to := range f.States {
			if op.Arity == 0 && one(3) {
				f.Rules = append(f.Rules, api.Rule{Op: op.Name, To: to})
			}
			for _, from := range f.States {
				if op.Arity == 1 && one(scarce) {
					f.Rules = append(f.Rules, api.Rule{Op: op.Name, From: from, To: to})
				}
			}
		}
	}
	r.Shuffle(len(f.Rules), func(i, j int) { f.Rules[i], f.Rules[j] = f.Rules[j], f.Rules[i] })
	return f
}

// edgesOf, startsOf and symbolsOf tell a content's parts, the rising ones sorted by their texts.
func edgesOf(f api.File) []string {
	var list []string
	for _, r := range f.Rules {
		if r.From != "" {
			list = append(list, r.Op+","+r.From+"->"+r.To)
		}
	}
	return list
}

func startsOf(f api.File) []string {
	var list []string
	for _, name := range f.States {
		if slices.ContainsFunc(f.Rules, func(r api.Rule) bool { return r.From == "" && r.To == name }) {
			list = append(list, name)
		}
	}
	return list
}

func symbolsOf(f api.File) []string {
	var list []string
	for _, op := range f.Ops {
		if op.Arity == 1 {
			list = append(list, op.Name)
		}
	}
	return list
}

// modelBA gives the BA form of a content that may be, or false.
func modelBA(f api.File) (string, bool) {
	starts, edges := startsOf(f), edgesOf(f)
	for _, name := range f.States {
		stands := func(r api.Rule) bool { return r.From == name || r.To == name }
		if !slices.ContainsFunc(f.Rules, stands) && !slices.Contains(f.Final, name) {
			return "", false
		}
	}
	for _, name := range symbolsOf(f) {
		if !slices.ContainsFunc(edges, func(s string) bool { return strings.HasPrefix(s, name+",") }) {
			return "", false
		}
	}
	if len(edges) == 0 {
		edges = []string{","}
	}
	return strings.Join(slices.Concat(starts, edges, f.Final), "\n") + "\n", len(starts) > 0
}

var (
	baLine  = regexp.MustCompile(strings.ReplaceAll(`\A(?:(N)|(N),(N)->(N)|(,))\z`, "N", `[A-Za-z0-9_']{1,16}`))
	baHead  = regexp.MustCompile(`\An*\z|\An+(e+|,)n*\z`)
	wholeBA = regexp.MustCompile(`\An+(e+|,)n*\z`)
)

// linesOf gives the lines of a text, the last one perhaps without its feed.
func linesOf(s string) []string {
	if s == "" {
		return nil
	}
	return strings.Split(strings.TrimSuffix(s, "\n"), "\n")
}

// modelWrong gives the number of the first wrong line of a text in the BA form, or 0.
func modelWrong(s string) int {
	lines := linesOf(s)
	kinds := ""
	for i, line := range lines {
		m := baLine.FindStringSubmatch(line)
		switch {
		case m == nil:
			return i + 1
		case m[1] != "":
			kinds += "n"
		case m[5] != "":
			kinds += ","
		default:
			kinds += "e"
		}
		// Those of one kind stand in one piece, but for names, of which the finals stand behind all others.
		first := strings.LastIndexAny(kinds[:i], "e,") + 1
		if kinds[i] == 'e' {
			first = strings.IndexByte(kinds, 'e')
		}
		if !baHead.MatchString(kinds) || slices.Contains(lines[first:i], line) {
			return i + 1
		}
	}
	if !wholeBA.MatchString(kinds) {
		return len(lines) + 1
	}
	return 0
}

// once appends what is not there yet.
func once[T comparable](list []T, items ...T) []T {
	for _, item := range items {
		if !slices.Contains(list, item) {
			list = append(list, item)
		}
	}
	return list
}

// modelContent gives the content of a text in the BA form.
func modelContent(s string) api.File {
	f := api.File{Title: "ba", Ops: []api.Op{{Name: "start"}}}
	var final []string
	edges := false
	for _, line := range linesOf(s) {
		m := baLine.FindStringSubmatch(line)
		switch {
		case m[1] == "":
			edges = true
			if m[2] != "" {
				f.Ops = once(f.Ops, api.Op{Name: m[2], Arity: 1})
				f.States = once(f.States, m[3], m[4])
				f.Rules = append(f.Rules, api.Rule{Op: m[2], From: m[3], To: m[4]})
			}
		case edges:
			final = append(final, line)
			f.States = once(f.States, line)
		default:
			f.Rules = append(f.Rules, api.Rule{Op: "start", To: line})
			f.States = once(f.States, line)
		}
	}
	for _, name := range f.States {
		if slices.Contains(final, name) {
			f.Final = append(f.Final, name)
		}
	}
	return f
}

// modelDot draws a content that may be, by going through all pairs of states.
func modelDot(f api.File) string {
	lines := []string{fmt.Sprintf("digraph %q {", f.Title), "  rankdir=LR;"}
	for _, name := range f.States {
		shape := map[bool]string{true: "doublecircle", false: "circle"}[slices.Contains(f.Final, name)]
		lines = append(lines, fmt.Sprintf("  %q [shape=%s];", name, shape))
	}
	for _, name := range startsOf(f) {
		lines = append(lines, fmt.Sprintf("  \"->%s\" [shape=point];", name), fmt.Sprintf("  \"->%s\" -> %q;", name, name))
	}
	for _, from := range f.States {
		for _, to := range f.States {
			var label []string
			for _, sym := range symbolsOf(f) {
				if slices.Contains(f.Rules, api.Rule{Op: sym, From: from, To: to}) {
					label = append(label, sym)
				}
			}
			if label != nil {
				lines = append(lines, fmt.Sprintf("  %q -> %q [label=%q];", from, to, strings.Join(label, ",")))
			}
		}
	}
	return strings.Join(append(lines, "}"), "\n") + "\n"
}

// changed gives a text with one or two bytes changed, left out or put in.
func changed(r *rand.Rand, s, bytes string) string {
	b := []byte(s)
	for range 1 + r.IntN(2) {
		at := r.IntN(len(b) + 1)
		c := bytes[r.IntN(len(bytes))]
		switch {
		case at == len(b) || r.IntN(3) == 0:
			b = slices.Insert(b, at, c)
		case r.IntN(2) == 0:
			b = slices.Delete(b, at, at+1)
		default:
			b[at] = c
		}
	}
	return string(b)
}

// isPiece tells whether a text is a piece of another, byte for byte in its memory.
func isPiece(s, of string) bool {
	at, from := uintptr(unsafe.Pointer(unsafe.StringData(s))), uintptr(unsafe.Pointer(unsafe.StringData(of)))
	return s != "" && from <= at && at < from+uintptr(len(of))
}
