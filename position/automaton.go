package position

import (
	"wordset/api"
	"wordset/nfa"
)

// automaton takes an expression that may be over so many symbols.
func automaton(e api.Expr, symbols int) (api.Auto, api.Errno) {
	carried := symbolsOf(e)
	whole, follow := walked(e)
	// No position is 0: it is the state ahead of all, so what can be first stands behind it.
	follow[0] = whole.first
	final := whole.last
	if whole.empty {
		final = union(final, single(0))
	}
	count := countAll(follow)
	if len(follow) > api.MaxStates || count > api.MaxEdges {
		return api.Auto{}, api.ErrSize
	}
	edges := make([]api.Edge, 0, count)
	for p, behind := range follow {
		for _, q := range behind.list() {
			edges = append(edges, api.Edge{From: p, Sym: carried[q-1], To: q})
		}
	}
	return nfa.Normal(api.Auto{States: len(follow), Symbols: symbols, Start: []int{0}, Final: final.list(), Edges: edges})
}

func countAll(sets []set) int {
	n := 0
	for _, s := range sets {
		n += s.count()
	}
	return n
}
