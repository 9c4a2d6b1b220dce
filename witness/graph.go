package witness

import (
	"cmp"
	"slices"

	"wordset/api"
)

// graph is an automaton whose edges are found by the states from which they lead.
type graph struct {
	edges []api.Edge
	begin []int // by state: the place of its first edge; behind the last state that behind the last edge
}

// newGraph takes an automaton in order.
func newGraph(a api.Auto) graph {
	g := graph{edges: a.Edges, begin: make([]int, a.States+1)}
	for _, e := range a.Edges {
		g.begin[e.From+1]++
	}
	for p := range a.States {
		g.begin[p+1] += g.begin[p]
	}
	return g
}

func (g graph) from(p int) []api.Edge { return g.edges[g.begin[p]:g.begin[p+1]] }

// fromBy gives the edges from a state by a symbol, without a look at all the others of that state.
func (g graph) fromBy(p, sym int) []api.Edge {
	edges := g.from(p)
	bySym := func(e api.Edge, sym int) int { return cmp.Compare(e.Sym, sym) }
	begin, _ := slices.BinarySearchFunc(edges, sym, bySym)
	end := begin
	for end < len(edges) && edges[end].Sym == sym {
		end++
	}
	return edges[begin:end]
}
