package antichain

import (
	"wordset/api"
	"wordset/bitset"
)

// byItself lets every state be below itself alone; so none of the first automaton is below one of the second.
func (s *search) byItself() {
	s.above = func(p int) []int { return []int{p} }
	s.covered = func(int, *bitset.Set) bool { return false }
	s.under = func(set, low *bitset.Set) { low.Join(set) }
	s.least = func(*bitset.Set) {}
}

// bySimulation lets a state be below those that simulate it in the disjoint union of both automata.
func (s *search) bySimulation(union api.Auto) {
	r := relationOf(union, s.first.states)
	s.above = func(p int) []int { return r.above[p] }
	s.covered = func(p int, set *bitset.Set) bool { return bitset.Meets(r.across[p], set) }
	s.under = func(set, low *bitset.Set) {
		for q := range set.All() {
			low.Join(r.below[q])
		}
	}
	s.least = func(set *bitset.Set) {
		// Taking out one behind the other is as good as all at once: of what ousts a state there is always one that nothing ousts.
		for q := range set.All() {
			if bitset.Meets(r.ousting[q], set) {
				set.Remove(q)
			}
		}
	}
}
