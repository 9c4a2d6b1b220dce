package subset

import (
	"wordset/api"
	"wordset/bitset"
)

// within tells whether a number is from 0 to one below the bound.
func within(i, bound int) bool { return i >= 0 && i < bound }

func allWithin(list []int, bound int) bool {
	for _, i := range list {
		if !within(i, bound) {
			return false
		}
	}
	return true
}

// setOf gives a list of states that may be as a set: the bound is never above bitset's, so nothing can go wrong.
func setOf(states int, list []int) *bitset.Set {
	s, _ := bitset.Of(states, list)
	return s
}

// step tells where a symbol leads from a state of a complete automaton that may be.
func step(d api.Dfa, s, sym int) int { return d.Next[s*d.Symbols+sym] }
