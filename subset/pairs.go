package subset

import "wordset/api"

// pair is a state of the first complete automaton and one of the second.
type pair = [2]int

// ops is how many tables say of a pair whether it is final: each a bit for each of the four ways in which two may be.
const ops = 16

func checkJoin(d, e api.Dfa, op int) api.Errno {
	switch {
	case Valid(d) != api.OK || Valid(e) != api.OK:
		return api.ErrDfa
	case d.Symbols != e.Symbols:
		return api.ErrSymbols
	case !within(op, ops):
		return api.ErrArg
	}
	return api.OK
}

// joint tells of a pair whether op has the bit for how its two states are final.
func joint(d, e api.Dfa, op int) func(pair) bool {
	first, second := setOf(d.States, d.Final), setOf(e.States, e.Final)
	return func(p pair) bool {
		bit := 0
		if first.Has(p[0]) {
			bit++
		}
		if second.Has(p[1]) {
			bit += 2
		}
		return op>>bit&1 == 1
	}
}
