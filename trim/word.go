package trim

import (
	"wordset/api"
	"wordset/bitset"
)

// leastWord goes from the start states to the nearest final one. All states that the word so far leads to, and from which it can still be ended in time, are kept at each step: the least next symbol may be one of any of them. False: there is no word.
func leastWord(a api.Auto) ([]int, bool) {
	toFinal := lengths(a, a.Final, back)
	left := leastLength(a.Start, toFinal)
	if left == none {
		return nil, false
	}
	edges := grouped(a, forward)
	states, _ := bitset.Of(a.States, a.Start)
	word := make([]int, 0, left)
	for left > 0 {
		left--
		var symbol int
		symbol, states = leastStep(a, edges, states, func(p int) bool { return toFinal[p] == left })
		word = append(word, symbol)
	}
	return word, true
}

// leastLength gives the length of the shortest way that one of the states has, or none.
func leastLength(states, length []int) int {
	least := none
	for _, p := range states {
		if n := length[p]; n != none && (least == none || n < least) {
			least = n
		}
	}
	return least
}

// leastStep gives the least symbol that leads from one of the states to a wanted one, and all wanted ones to which it leads.
func leastStep(a api.Auto, edges [][]api.Edge, states *bitset.Set, wanted func(p int) bool) (int, *bitset.Set) {
	best := a.Symbols
	next, _ := bitset.New(a.States)
	for p := range states.All() {
		for _, e := range edges[p] {
			if e.Sym > best || !wanted(e.To) {
				continue
			}
			if e.Sym < best {
				best = e.Sym
				next.Clear()
			}
			next.Add(e.To)
		}
	}
	return best, next
}
