package antichain

import (
	"iter"
	"slices"

	"wordset/api"
	"wordset/bitset"
	"wordset/nfa"
)

// pair is a state of the first automaton and a set of states of the second, and how it was found.
type pair struct {
	state int
	set   *bitset.Set
	link  api.Link
}

// search goes through pairs breadth first. What is below what, and so what a set's least form is, its functions say.
type search struct {
	above   func(p int) []int                 // the states of the first automaton that one of them is below
	covered func(p int, set *bitset.Set) bool // whether a state of the first is below one of a set of the second
	under   func(set, low *bitset.Set)        // puts into low the states of the second that are below one of a set
	least   func(set *bitset.Set)             // brings a set of the second into its least form

	first, second side
	pool          pool
	budget        int
	kept          []pair
	sets          [][]keptSet // by state, those of the pairs that were kept with it
}

// keptSet has its least number beside it, -1: it has none. Most sets that don't lie within another one are known by that number alone.
type keptSet struct {
	first int
	set   *bitset.Set
}

func (k keptSet) within(other *bitset.Set) bool {
	return k.first < 0 || other.Has(k.first) && bitset.Subset(k.set, other)
}

// newSearch looks first whether both automata may be searched together.
func newSearch(a, b api.Auto, simul bool, budget int) (*search, api.Errno) {
	union, err := nfa.Union(a, b)
	if err != api.OK {
		return nil, err
	}
	s := &search{first: newSide(a), second: newSide(b), pool: pool{bound: b.States}, budget: budget, sets: make([][]keptSet, a.States)}
	if simul {
		s.bySimulation(union)
	} else {
		s.byItself()
	}
	return s, api.OK
}

// run keeps pairs till there are no more, or a bad one ends it; it tells the place of the bad one, -1: there is none.
func (s *search) run() (int, api.Errno) {
	for p, low := range s.found() {
		bad := s.bad(p)
		if !bad && s.leftOut(p, low) {
			continue
		}
		if s.budget > 0 && len(s.kept) == s.budget {
			return 0, api.ErrBudget
		}
		s.keep(p)
		if bad {
			return len(s.kept) - 1, api.OK
		}
	}
	return -1, api.OK
}

// found goes through the pairs that are found, and beside each the states that are below one of its set; what is kept meanwhile has its turn too. The sets are written over afterwards.
func (s *search) found() iter.Seq2[pair, *bitset.Set] {
	return func(yield func(pair, *bitset.Set) bool) {
		begin := func(set *bitset.Set) { set.Join(s.second.start) }
		more := s.meet(s.first.start.List(), begin, api.Link{Parent: -1, Sym: -1}, yield)
		for at := 0; more && at < len(s.kept); at++ {
			from := s.kept[at]
			for sym := 0; more && sym < s.first.symbols; sym++ {
				post := func(set *bitset.Set) { s.second.follow(from.set, sym, set) }
				more = s.meet(s.first.ends(from.state, sym), post, api.Link{Parent: at, Sym: sym}, yield)
			}
		}
	}
}

// meet hands on the pairs of states, rising, with the least form of the set that fill puts into an empty one, till yield has enough.
func (s *search) meet(states []int, fill func(*bitset.Set), link api.Link, yield func(pair, *bitset.Set) bool) bool {
	if len(states) == 0 {
		return true
	}
	set, low := s.pool.take(), s.pool.take()
	defer s.pool.giveBack(set, low)
	fill(set)
	s.least(set)
	s.under(set, low)
	for _, p := range states {
		if !yield(pair{state: p, set: set, link: link}, low) {
			return false
		}
	}
	return true
}

func (s *search) bad(p pair) bool {
	return s.first.final.Has(p.state) && !bitset.Meets(p.set, s.second.final)
}

// leftOut tells whether no word is to be found from a pair that would not be found from one that was kept.
func (s *search) leftOut(p pair, low *bitset.Set) bool {
	if s.covered(p.state, p.set) {
		return true
	}
	for _, q := range s.above(p.state) {
		if slices.ContainsFunc(s.sets[q], func(k keptSet) bool { return k.within(low) }) {
			return true
		}
	}
	return false
}

func (s *search) keep(p pair) {
	p.set = p.set.Copy()
	s.kept = append(s.kept, p)
	s.sets[p.state] = append(s.sets[p.state], keptSet{p.set.Next(0), p.set})
}

// taken tells the pairs that were kept.
func (s *search) taken() []api.Taken {
	all := make([]api.Taken, len(s.kept))
	for i, p := range s.kept {
		all[i] = api.Taken{State: p.state, Set: p.set.List(), Link: p.link}
	}
	return all
}

// word gives the symbols that lead from a root to the pair at a place.
func (s *search) word(at int) []int {
	var w []int
	for link := s.kept[at].link; link.Parent >= 0; link = s.kept[link.Parent].link {
		w = append(w, link.Sym)
	}
	slices.Reverse(w)
	return w
}
