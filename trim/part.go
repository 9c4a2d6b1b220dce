package trim

import (
	"wordset/api"
	"wordset/bitset"
)

// part gives what of an automaton in order lies among some states, renumbered in their order: that keeps all its lists in order too.
func part(a api.Auto, among *bitset.Set) (api.Auto, []int) {
	old := among.List()
	number := make([]int, a.States)
	for i, p := range old {
		number[p] = i
	}
	b := api.Auto{States: len(old), Symbols: a.Symbols}
	b.Start = renumbered(a.Start, among, number)
	b.Final = renumbered(a.Final, among, number)
	for _, e := range a.Edges {
		if among.Has(e.From) && among.Has(e.To) {
			b.Edges = append(b.Edges, api.Edge{From: number[e.From], Sym: e.Sym, To: number[e.To]})
		}
	}
	return b, old
}

func renumbered(states []int, among *bitset.Set, number []int) []int {
	var list []int
	for _, p := range states {
		if among.Has(p) {
			list = append(list, number[p])
		}
	}
	return list
}
