package certify

import (
	"slices"

	"wordset/api"
)

// isOver tells whether a certificate may be, with states of the one automaton below a bound, and sets of the other one's below another.
func isOver(c api.Cert, states, others int) bool {
	return len(c.Pairs) <= api.MaxCert && !slices.ContainsFunc(c.Pairs, func(x api.Pair) bool {
		return x.State < 0 || x.State >= states || !rises(x.Set, others)
	})
}

// rises tells whether a list rises strictly and has no number but those below a bound.
func rises(list []int, bound int) bool {
	least := 0
	for _, n := range list {
		if n < least || n >= bound {
			return false
		}
		least = n + 1
	}
	return true
}

// leastOf gives the pairs whose sets hold no other one's of the same state, if they are no more than a certificate may have.
func leastOf(kept []api.Taken, states, others int) ([]api.Pair, bool) {
	var pairs []api.Pair
	sets := make([][]set, states) // by state: those of its pairs
	// No set of a pair that was kept lies within one of the same state that was kept behind it. So from the last pair on none has to be given up again.
	for _, x := range slices.Backward(kept) {
		s := setOf(others, x.Set)
		if slices.ContainsFunc(sets[x.State], func(t set) bool { return t.within(s) }) {
			continue
		}
		if len(pairs) == api.MaxCert {
			return nil, false
		}
		sets[x.State] = append(sets[x.State], s)
		pairs = append(pairs, api.Pair{State: x.State, Set: x.Set})
	}
	slices.Reverse(pairs)
	return pairs, true
}
