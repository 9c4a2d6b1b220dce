package antichain

import (
	"wordset/api"
	"wordset/bitset"
	"wordset/nfa"
)

// side is one of the two automata, laid out so that what follows a state by a symbol is found without a look at other edges.
type side struct {
	states, symbols int
	start, final    *bitset.Set
	heads           []int // of all edges, in order
	begin           []int // by state and symbol: where the heads of their edges begin
}

// newSide takes an automaton that may be.
func newSide(a api.Auto) side {
	a, _ = nfa.Normal(a)
	x := side{states: a.States, symbols: a.Symbols, start: setOf(a.States, a.Start), final: setOf(a.States, a.Final)}
	x.begin = make([]int, a.States*a.Symbols+1)
	for _, e := range a.Edges {
		x.heads = append(x.heads, e.To)
		x.begin[e.From*a.Symbols+e.Sym+1]++
	}
	for i := range a.States * a.Symbols {
		x.begin[i+1] += x.begin[i]
	}
	return x
}

// ends gives the states to which a symbol leads from a state, rising.
func (x side) ends(p, sym int) []int {
	i := p*x.symbols + sym
	return x.heads[x.begin[i]:x.begin[i+1]]
}

// follow puts into another set the states to which a symbol leads from those of a set.
func (x side) follow(set *bitset.Set, sym int, into *bitset.Set) {
	for p := range set.All() {
		for _, q := range x.ends(p, sym) {
			into.Add(q)
		}
	}
}

// setOf gives a set of numbers that are known to be below a bound that may be.
func setOf(bound int, list []int) *bitset.Set {
	s, _ := bitset.Of(bound, list)
	return s
}
