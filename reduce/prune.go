package reduce

import (
	"slices"

	"wordset/api"
)

// eldest leaves out each state that is a little brother of another one beside it. All are held against the list as it was handed in.
func eldest(states []int, little func(p, q int) bool) []int {
	var kept []int
	for _, p := range states {
		if !slices.ContainsFunc(states, func(q int) bool { return little(p, q) }) {
			kept = append(kept, p)
		}
	}
	return kept
}

// eldestEdges leaves out each edge beside which another one leads to a greater brother. The edges are in order: so those from one state by one symbol stand together.
func eldestEdges(edges []api.Edge, little func(p, q int) bool) []api.Edge {
	var kept []api.Edge
	for len(edges) > 0 {
		first := edges[0]
		var heads []int
		for len(edges) > 0 && edges[0].From == first.From && edges[0].Sym == first.Sym {
			heads = append(heads, edges[0].To)
			edges = edges[1:]
		}
		for _, q := range eldest(heads, little) {
			kept = append(kept, api.Edge{From: first.From, Sym: first.Sym, To: q})
		}
	}
	return kept
}
