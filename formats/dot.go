package formats

import (
	"cmp"
	"slices"
	"strings"

	"wordset/api"
)

// dotOf gives the drawing of a content that may be.
func dotOf(f api.File) string {
	var b strings.Builder
	b.WriteString("digraph " + quoted(f.Title) + " {\n  rankdir=LR;\n")
	final := placesOf(f.Final)
	for _, name := range f.States {
		shape := "circle"
		if _, ok := final[name]; ok {
			shape = "doublecircle"
		}
		b.WriteString("  " + quoted(name) + " [shape=" + shape + "];\n")
	}
	for _, name := range startsOf(f) {
		point := quoted("->" + name)
		b.WriteString("  " + point + " [shape=point];\n  " + point + " -> " + quoted(name) + ";\n")
	}
	writeArrows(&b, f)
	b.WriteString("}\n")
	return b.String()
}

// quoted needs no escapes: a name holds neither a quote nor a backslash.
func quoted(text string) string { return `"` + text + `"` }

// writeArrows writes one line for each pair of states that edges lead between.
func writeArrows(b *strings.Builder, f api.File) {
	symbols := symbolsOf(f.Ops)
	edges := edgesOf(f, symbols)
	slices.SortFunc(edges, func(a, b api.Edge) int {
		return cmp.Or(compareEnds(a, b), cmp.Compare(a.Sym, b.Sym))
	})
	for len(edges) > 0 {
		var label []string
		first := edges[0]
		for len(edges) > 0 && compareEnds(edges[0], first) == 0 {
			label = append(label, symbols[edges[0].Sym])
			edges = edges[1:]
		}
		b.WriteString("  " + quoted(f.States[first.From]) + " -> " + quoted(f.States[first.To]) +
			" [label=" + quoted(strings.Join(label, ",")) + "];\n")
	}
}

func compareEnds(a, b api.Edge) int {
	return cmp.Or(cmp.Compare(a.From, b.From), cmp.Compare(a.To, b.To))
}

// edgesOf gives the edges of a content by numbers. (format's automaton of a content has limits, a drawing has none.)
func edgesOf(f api.File, symbols []string) []api.Edge {
	ofState, ofSymbol := placesOf(f.States), placesOf(symbols)
	var edges []api.Edge
	for _, r := range f.Rules {
		if r.From != "" {
			edges = append(edges, api.Edge{From: ofState[r.From], Sym: ofSymbol[r.Op], To: ofState[r.To]})
		}
	}
	return edges
}

func symbolsOf(ops []api.Op) []string {
	var symbols []string
	for _, op := range ops {
		if op.Arity == 1 {
			symbols = append(symbols, op.Name)
		}
	}
	return symbols
}

func placesOf(list []string) map[string]int {
	places := make(map[string]int, len(list))
	for i, name := range list {
		places[name] = i
	}
	return places
}
