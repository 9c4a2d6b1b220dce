package count

import (
	"math/big"

	"wordset/api"
	"wordset/bitset"
	"wordset/nfa"
	"wordset/trim"
)

// sets are the sets of states that words lead to, but for the empty one, numbered as they are met.
type sets struct {
	graph
	budget int
	all    *bitset.Set
	final  *bitset.Set
	number map[string]int
	taken  []bool
	next   [][]int       // where the symbols lead that lead to a set; nil: nobody has asked yet
	fresh  []*bitset.Set // by number: the set, till somebody asks
}

// newSets takes an automaton in order, and a budget above 0.
func newSets(a api.Auto, budget int) *sets {
	g := newGraph(a)
	return &sets{graph: g, budget: budget, all: bitset.Not(g.set()), final: g.set(g.Final...), number: map[string]int{}}
}

// meet gives a set's number.
func (s *sets) meet(set *bitset.Set) (int, api.Errno) {
	key := set.Key()
	if n, known := s.number[key]; known {
		return n, api.OK
	}
	n := len(s.next)
	if n == s.budget {
		return 0, api.ErrBudget
	}
	s.number[key] = n
	s.taken = append(s.taken, bitset.Meets(set, s.final))
	s.next = append(s.next, nil)
	s.fresh = append(s.fresh, set)
	return n, api.OK
}

// after gives the numbers of the sets to which symbols lead, each as often as there are such symbols.
func (s *sets) after(n int) ([]int, api.Errno) {
	if s.next[n] != nil {
		return s.next[n], api.OK
	}
	next := []int{}
	for _, w := range s.ways(s.fresh[n], s.all) {
		to, err := s.meet(w.to)
		if err != api.OK {
			return nil, err
		}
		next = append(next, to)
	}
	s.next[n], s.fresh[n] = next, nil
	return next, api.OK
}

// byLength takes an automaton in order, and a budget above 0. Each word leads to one set: so how many lead to a set is how many lead to those ahead of it.
func byLength(a api.Auto, most, budget int) ([]string, api.Errno) {
	s := newSets(a, budget)
	var now, next tally
	if len(a.Start) > 0 {
		first, _ := s.meet(s.set(a.Start...))
		now.add(first, big.NewInt(1))
	}
	numbers := make([]string, 0, most+1)
	for {
		numbers = append(numbers, now.digits(func(n int) bool { return s.taken[n] }))
		if len(numbers) > most {
			return numbers, api.OK
		}
		next.empty()
		for _, n := range now.met {
			ends, err := s.after(n)
			if err != api.OK {
				return nil, err
			}
			for _, end := range ends {
				next.add(end, &now.times[n])
			}
		}
		now, next = next, now
	}
}

// eitherWay counts where no budget asks how many sets there are. Read backwards the words of one length are as many, and their sets may be far fewer: both ways are tried with ever greater budgets, so that the harder one never takes long.
func eitherWay(a api.Auto, most int) []string {
	a, _, _ = trim.Trim(a)
	back, _ := nfa.Reverse(a)
	for budget := 1024; ; budget *= 2 {
		for _, side := range [...]api.Auto{a, back} {
			if numbers, err := byLength(side, most, budget); err == api.OK {
				return numbers
			}
		}
	}
}
