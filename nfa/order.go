package nfa

import (
	"cmp"
	"slices"

	"wordset/api"
)

// ordered gives the items of a list in an order, each once, in new memory.
func ordered[T comparable](list []T, order func(x, y T) int) []T {
	all := make([]T, len(list))
	copy(all, list)
	slices.SortFunc(all, order)
	return slices.Compact(all)
}

func orderedStates(list []int) []int { return ordered(list, cmp.Compare[int]) }

func orderedEdges(list []api.Edge) []api.Edge {
	return ordered(list, func(x, y api.Edge) int {
		switch {
		case x == y:
			return 0
		case x.From != y.From:
			return cmp.Compare(x.From, y.From)
		case x.Sym != y.Sym:
			return cmp.Compare(x.Sym, y.Sym)
		}
		return cmp.Compare(x.To, y.To)
	})
}

// inOrder, turned and relabelled take automata that may be, in any order.
func inOrder(a api.Auto) api.Auto {
	return api.Auto{States: a.States, Symbols: a.Symbols, Start: orderedStates(a.Start), Final: orderedStates(a.Final), Edges: orderedEdges(a.Edges)}
}

func turned(a api.Auto) api.Auto {
	edges := make([]api.Edge, len(a.Edges))
	for i, e := range a.Edges {
		edges[i] = api.Edge{From: e.To, Sym: e.Sym, To: e.From}
	}
	return inOrder(api.Auto{States: a.States, Symbols: a.Symbols, Start: a.Final, Final: a.Start, Edges: edges})
}

func relabelled(a api.Auto, symbols int, to []int) api.Auto {
	edges := make([]api.Edge, len(a.Edges))
	for i, e := range a.Edges {
		edges[i] = api.Edge{From: e.From, Sym: to[e.Sym], To: e.To}
	}
	return inOrder(api.Auto{States: a.States, Symbols: symbols, Start: a.Start, Final: a.Final, Edges: edges})
}

// beside takes two automata in order that only it holds: all numbers of b come to stand behind those of a, so the lists stay in order.
func beside(a, b api.Auto) api.Auto {
	for i, p := range b.Start {
		b.Start[i] = p + a.States
	}
	for i, p := range b.Final {
		b.Final[i] = p + a.States
	}
	for i, e := range b.Edges {
		b.Edges[i] = api.Edge{From: e.From + a.States, Sym: e.Sym, To: e.To + a.States}
	}
	a.States += b.States
	a.Start = append(a.Start, b.Start...)
	a.Final = append(a.Final, b.Final...)
	a.Edges = append(a.Edges, b.Edges...)
	return a
}
