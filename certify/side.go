package certify

import "wordset/api"

// side is one of the two automata; its edges are found by the states from which they lead.
type side struct {
	states, symbols int
	starts          []int
	final           set
	edges           []api.Edge
	begin           []int // by state: the place of its first edge; behind the last state that behind the last edge
}

// newSide takes an automaton in order.
func newSide(a api.Auto) side {
	x := side{states: a.States, symbols: a.Symbols, starts: a.Start, final: setOf(a.States, a.Final), edges: a.Edges}
	x.begin = make([]int, a.States+1)
	for _, e := range a.Edges {
		x.begin[e.From+1]++
	}
	for p := range a.States {
		x.begin[p+1] += x.begin[p]
	}
	return x
}

func (x side) from(p int) []api.Edge { return x.edges[x.begin[p]:x.begin[p+1]] }
