package certify

// set is a set of states: its word p/64 has the bit p%64 just if p is one of them.
type set []uint64

func emptySet(states int) set { return make(set, (states+63)/64) }

func setOf(states int, list []int) set {
	s := emptySet(states)
	for _, p := range list {
		s.add(p)
	}
	return s
}

func (s set) add(p int) { s[p/64] |= 1 << (p % 64) }

func (s set) has(p int) bool { return s[p/64]>>(p%64)&1 == 1 }

// within takes a set of states of the same automaton, as meets does.
func (s set) within(t set) bool {
	for i, word := range s {
		if word&^t[i] != 0 {
			return false
		}
	}
	return true
}

func (s set) meets(t set) bool {
	for i, word := range s {
		if word&t[i] != 0 {
			return true
		}
	}
	return false
}
