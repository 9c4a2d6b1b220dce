package count

import (
	"cmp"
	"slices"

	"wordset/api"
	"wordset/bitset"
)

// graph is an automaton whose edges are found by the states from which they lead.
type graph struct {
	api.Auto
	begin []int // by state: the place of its first edge; behind the last state that behind the last edge
}

// newGraph takes an automaton in order.
func newGraph(a api.Auto) graph {
	g := graph{Auto: a, begin: make([]int, a.States+1)}
	for _, e := range a.Edges {
		g.begin[e.From+1]++
	}
	for p := range a.States {
		g.begin[p+1] += g.begin[p]
	}
	return g
}

func (g graph) from(p int) []api.Edge { return g.Edges[g.begin[p]:g.begin[p+1]] }

// fromBy gives the edges from a state by a symbol, which may be any number.
func (g graph) fromBy(p, sym int) []api.Edge {
	edges := g.from(p)
	bySym := func(e api.Edge, sym int) int { return cmp.Compare(e.Sym, sym) }
	begin, _ := slices.BinarySearchFunc(edges, sym, bySym)
	end := begin
	for end < len(edges) && edges[end].Sym == sym {
		end++
	}
	return edges[begin:end]
}

// set gives a list of states as a set: the bound is never above bitset's, so nothing can go wrong.
func (g graph) set(list ...int) *bitset.Set {
	s, _ := bitset.Of(g.States, list)
	return s
}

// way is a symbol and all states to which it leads.
type way struct {
	sym int
	to  *bitset.Set
}

// ways gives for each symbol that leads from a set to some of the wanted states those states, symbols rising.
func (g graph) ways(from, wanted *bitset.Set) []way {
	bySym := make([]*bitset.Set, g.Symbols)
	count := 0
	for p := from.Next(0); p >= 0; p = from.Next(p + 1) {
		for _, e := range g.from(p) {
			if !wanted.Has(e.To) {
				continue
			}
			if bySym[e.Sym] == nil {
				bySym[e.Sym] = g.set()
				count++
			}
			bySym[e.Sym].Add(e.To)
		}
	}
	list := make([]way, 0, count)
	for sym, to := range bySym {
		if to != nil {
			list = append(list, way{sym, to})
		}
	}
	return list
}
