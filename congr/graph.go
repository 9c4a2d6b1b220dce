package congr

import (
	"wordset/api"
	"wordset/bitset"
	"wordset/nfa"
)

// graph is an automaton whose edges are found by the states from which they lead.
type graph struct {
	symbols int
	final   *bitset.Set
	edges   []api.Edge
	begin   []int // by state: the place of its first edge; behind the last state that behind the last edge
}

// newGraph takes an automaton in order.
func newGraph(a api.Auto) graph {
	g := graph{symbols: a.Symbols, final: setOf(a.States, a.Final), edges: a.Edges, begin: make([]int, a.States+1)}
	for _, e := range a.Edges {
		g.begin[e.From+1]++
	}
	for p := range a.States {
		g.begin[p+1] += g.begin[p]
	}
	return g
}

func (g graph) accepts(set *bitset.Set) bool { return bitset.Meets(set, g.final) }

func (g graph) from(p int) []api.Edge { return g.edges[g.begin[p]:g.begin[p+1]] }

// post gives, by symbol, the states to which it leads from those of a set.
func (g graph) post(set *bitset.Set, pool *pool) []*bitset.Set {
	ends := make([]*bitset.Set, g.symbols)
	for k := range ends {
		ends[k] = pool.take()
	}
	for p := set.Next(0); p >= 0; p = set.Next(p + 1) {
		for _, e := range g.from(p) {
			ends[e.Sym].Add(e.To)
		}
	}
	return ends
}

// useful gives the part of an automaton, which may be, whose states lie on the path of a word, renumbered in their order.
func useful(a api.Auto) api.Auto {
	a, _ = nfa.Normal(a)
	back, _ := nfa.Reverse(a)
	among := reached(a)
	among.Cut(reached(back))
	number := make([]int, a.States)
	for i, p := range among.List() {
		number[p] = i
	}
	part := api.Auto{States: among.Count(), Symbols: a.Symbols, Start: renumbered(a.Start, among, number), Final: renumbered(a.Final, among, number)}
	for _, e := range a.Edges {
		if among.Has(e.From) && among.Has(e.To) {
			part.Edges = append(part.Edges, api.Edge{From: number[e.From], Sym: e.Sym, To: number[e.To]})
		}
	}
	return part
}

func renumbered(states []int, among *bitset.Set, number []int) []int {
	var list []int
	for _, p := range states {
		if among.Has(p) {
			list = append(list, number[p])
		}
	}
	return list
}

// reached takes an automaton in order.
func reached(a api.Auto) *bitset.Set {
	g := newGraph(a)
	seen := setOf(a.States, a.Start)
	for todo := seen.List(); len(todo) > 0; {
		p := todo[len(todo)-1]
		todo = todo[:len(todo)-1]
		for _, e := range g.from(p) {
			if !seen.Has(e.To) {
				seen.Add(e.To)
				todo = append(todo, e.To)
			}
		}
	}
	return seen
}
