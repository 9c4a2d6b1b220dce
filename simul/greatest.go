package simul

import (
	"wordset/api"
	"wordset/bitset"
	"wordset/nfa"
)

// matrix gives the greatest simulation in a direction.
func matrix(a api.Auto, d direction) (api.Matrix, api.Errno) {
	n, err := nfa.Normal(a)
	if err != api.OK {
		return api.Matrix{}, err
	}
	m := api.Matrix{N: n.States, Rows: make([][]int, n.States)}
	for p, row := range greatest(n, d) {
		m.Rows[p] = row.List()
	}
	return m, api.OK
}

// greatest gives, by state, the states that are above it; the automaton is in order.
func greatest(a api.Auto, d direction) []*bitset.Set {
	n := newNarrowing(a, d)
	for p, unfit := range unfits(a, d) {
		for q := range unfit.All() {
			n.takeOut(p, q)
		}
	}
	n.settle()
	return n.rows
}

// unfits gives, by state, those that are not marked though it is, and those without an edge of a symbol of which it has one: they are not above it, whatever is above what else.
func unfits(a api.Auto, d direction) []*bitset.Set {
	unfit := make([]*bitset.Set, a.States)
	for p := range unfit {
		unfit[p] = setOf(a.States, nil)
	}
	marked := setOf(a.States, d.marked(a))
	for p := range marked.All() {
		unfit[p].Join(bitset.Not(marked))
	}
	without := lacking(a, d)
	for _, e := range a.Edges {
		unfit[d.tail(e)].Join(without[e.Sym])
	}
	return unfit
}

// lacking gives, by symbol, the states that have no edge of it.
func lacking(a api.Auto, d direction) []*bitset.Set {
	without := make([]*bitset.Set, a.Symbols)
	for sym := range without {
		without[sym] = allBelow(a.States)
	}
	for _, e := range a.Edges {
		without[e.Sym].Remove(d.tail(e))
	}
	return without
}

// setOf gives a set of numbers that are known to be below a bound that may be.
func setOf(bound int, list []int) *bitset.Set {
	s, _ := bitset.Of(bound, list)
	return s
}

func allBelow(bound int) *bitset.Set { return bitset.Not(setOf(bound, nil)) }
