package subset

import "wordset/api"

// oneWay takes an automaton in order: two successors of one state by one symbol stand side by side.
func oneWay(a api.Auto) bool {
	for i := 1; i < len(a.Edges); i++ {
		if x, y := a.Edges[i-1], a.Edges[i]; x.From == y.From && x.Sym == y.Sym {
			return false
		}
	}
	return len(a.Start) <= 1
}

// completed takes an automaton in order that goes one way, and whose lists are its own. What is missing leads to a state more, the last one, and so does all from that state: Next holds it everywhere till the edges are laid over it.
func completed(a api.Auto) (api.Dfa, api.Errno) {
	last := a.States
	d := api.Dfa{States: a.States, Symbols: a.Symbols, Start: last, Final: a.Final}
	if len(a.Start) == 1 {
		d.Start = a.Start[0]
	}
	if len(a.Start) == 0 || len(a.Edges) < a.States*a.Symbols {
		d.States++
	}
	if d.States > api.MaxStates {
		return api.Dfa{}, api.ErrSize
	}
	d.Next = make([]int, d.States*d.Symbols)
	for i := range d.Next {
		d.Next[i] = last
	}
	for _, e := range a.Edges {
		d.Next[e.From*a.Symbols+e.Sym] = e.To
	}
	return d, api.OK
}
