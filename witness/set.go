package witness

import (
	"iter"
	"math/bits"
)

// set is a set of states: its byte p/8 has the bit p%8 just if p is one of them. As a text it can be a map's key.
type set []byte

func emptySet(states int) set { return make(set, (states+7)/8) }

func setOf(states int, list []int) set {
	s := emptySet(states)
	for _, p := range list {
		s.add(p)
	}
	return s
}

func (s set) add(p int) { s[p/8] |= 1 << (p % 8) }

func (s set) has(p int) bool { return s[p/8]>>(p%8)&1 == 1 }

// meets takes a set of states of the same automaton.
func (s set) meets(t set) bool {
	for i := range s {
		if s[i]&t[i] != 0 {
			return true
		}
	}
	return false
}

// states goes through the states, rising.
func (s set) states() iter.Seq[int] {
	return func(yield func(int) bool) {
		for i, rest := range s {
			for ; rest != 0; rest &= rest - 1 {
				if !yield(8*i + bits.TrailingZeros8(rest)) {
					return
				}
			}
		}
	}
}
