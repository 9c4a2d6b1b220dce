package build

import (
	"slices"

	"wordset/api"
	"wordset/nfa"
)

// both gives two automata in order, if they can be taken together.
func both(a, b api.Auto) (x, y api.Auto, err api.Errno) {
	if x, err = nfa.Normal(a); err != api.OK {
		return api.Auto{}, api.Auto{}, err
	}
	if y, err = nfa.Normal(b); err != api.OK {
		return api.Auto{}, api.Auto{}, err
	}
	if x.Symbols != y.Symbols {
		return api.Auto{}, api.Auto{}, api.ErrSymbols
	}
	return x, y, api.OK
}

// startingAt and endingAt give an automaton with other starts or finals, if those could be told.
func startingAt(a api.Auto, start []int, err api.Errno) (api.Auto, api.Errno) {
	if err != api.OK {
		return api.Auto{}, err
	}
	b, err := nfa.Normal(a)
	b.Start = start
	return b, err
}

func endingAt(a api.Auto, final []int, err api.Errno) (api.Auto, api.Errno) {
	if err != api.OK {
		return api.Auto{}, err
	}
	b, err := nfa.Normal(a)
	b.Final = final
	return b, err
}

// moved gives an automaton with each state that much higher: those below are there, but nothing touches them.
func moved(a api.Auto, by int) api.Auto {
	b := api.Auto{States: a.States + by, Symbols: a.Symbols, Start: movedStates(a.Start, by), Final: movedStates(a.Final, by)}
	for _, e := range a.Edges {
		b.Edges = append(b.Edges, api.Edge{From: e.From + by, Sym: e.Sym, To: e.To + by})
	}
	return b
}

func movedStates(list []int, by int) []int {
	out := make([]int, len(list))
	for i, p := range list {
		out[i] = p + by
	}
	return out
}

// behind puts an automaton behind one whose states all stand below its own, so that lists stay in order one behind the other.
func behind(a, b api.Auto) (api.Auto, api.Errno) {
	edges, err := bridged(a, b.Start)
	if err != api.OK || len(edges)+len(b.Edges) > api.MaxEdges {
		return api.Auto{}, api.ErrSize
	}
	c := api.Auto{States: b.States, Symbols: a.Symbols, Start: a.Start, Final: b.Final, Edges: append(edges, b.Edges...)}
	if takesEmpty(a) {
		c.Start = slices.Concat(a.Start, b.Start)
	}
	if takesEmpty(b) {
		c.Final = slices.Concat(a.Final, b.Final)
	}
	return c, api.OK
}

// again takes an automaton whose state 0 is free: that one takes the empty word.
func again(a api.Auto) (api.Auto, api.Errno) {
	edges, err := bridged(a, a.Start)
	if err != api.OK {
		return api.Auto{}, err
	}
	free := []int{0}
	return api.Auto{States: a.States, Symbols: a.Symbols, Start: slices.Concat(free, a.Start), Final: slices.Concat(free, a.Final), Edges: edges}, api.OK
}

// bridged gives an automaton's edges and, beside each that ends a word, those by which another word begins. It stops at the first edge too many: there could be very many.
func bridged(a api.Auto, begin []int) ([]api.Edge, api.Errno) {
	next, final := newRows(a), finals(a)
	var edges []api.Edge
	for p := range a.States {
		for sym := range a.Symbols {
			ends := slices.Clone(next.of(p, sym))
			if slices.ContainsFunc(ends, func(q int) bool { return final[q] }) {
				ends = append(ends, begin...)
			}
			edges = lead(edges, p, sym, ends)
			if len(edges) > api.MaxEdges {
				return nil, api.ErrSize
			}
		}
	}
	return edges, api.OK
}

func takesEmpty(a api.Auto) bool {
	final := finals(a)
	return slices.ContainsFunc(a.Start, func(p int) bool { return final[p] })
}

// lead adds the edges from a state by a symbol, in order and each once; it takes the ends as its own.
func lead(edges []api.Edge, from, sym int, ends []int) []api.Edge {
	slices.Sort(ends)
	for _, to := range slices.Compact(ends) {
		edges = append(edges, api.Edge{From: from, Sym: sym, To: to})
	}
	return edges
}
