package congr

import (
	"iter"
	"slices"

	"wordset/api"
	"wordset/bitset"
	"wordset/nfa"
)

// pair is two sets of states of the union, and how it was found.
type pair struct {
	x, y *bitset.Set
	link api.Link // its parent is a pair that was processed
	rule int      // its number among the rules while it waits
}

// search goes through pairs, first come, first served. Its functions say when one ends it, and what one is left out by.
type search struct {
	bad     func(p pair) bool
	leftOut func(p pair) bool

	union   graph
	starts  [2]*bitset.Set
	pool    *pool
	rules   *rules // the pairs that were processed and those that wait
	budget  int
	waiting []pair
	links   []api.Link // of the pairs that were processed
}

// newSearch looks first whether both automata may be searched together, as they were handed in.
func newSearch(a, b api.Auto, trim bool, budget int) (*search, api.Errno) {
	union, err := nfa.Union(a, b)
	if err != api.OK {
		return nil, err
	}
	if trim {
		a, b = useful(a), useful(b)
		union, _ = nfa.Union(a, b)
	}
	s := &search{union: newGraph(union), pool: &pool{bound: union.States}, budget: budget}
	s.rules = newRules(s.pool)
	s.starts = [2]*bitset.Set{s.pool.take(), s.pool.take()}
	for _, p := range union.Start {
		if p < a.States {
			s.starts[0].Add(p)
		} else {
			s.starts[1].Add(p)
		}
	}
	return s, api.OK
}

// bySameness is for pairs of any two sets.
func (s *search) bySameness() {
	s.bad = func(p pair) bool { return s.union.accepts(p.x) != s.union.accepts(p.y) }
	s.leftOut = func(p pair) bool { return s.rules.related(p.x, p.y) }
}

// byGreaterFirst is for pairs whose first set has all of the second: what holds of the first pair holds of all that are found from it. So just one way is to be looked at.
func (s *search) byGreaterFirst() {
	s.bad = func(p pair) bool { return s.union.accepts(p.x) && !s.union.accepts(p.y) }
	s.leftOut = func(p pair) bool { return s.rules.leads(p.y, p.x) }
}

// run begins with a pair of sets.
func (s *search) run(x, y *bitset.Set) (api.Found, api.Errno) {
	first := pair{x: x, y: y, link: api.Link{Parent: -1, Sym: -1}}
	if s.bad(first) {
		return s.no(first), api.OK
	}
	s.wait(first)
	for len(s.waiting) > 0 {
		p := s.longest()
		if s.leftOut(p) {
			s.pool.giveBack(p.x, p.y)
			continue
		}
		if s.budget > 0 && len(s.links) == s.budget {
			return api.Found{}, api.ErrBudget
		}
		for q := range s.process(p) {
			if s.bad(q) {
				return s.no(q), api.OK
			}
			s.wait(q)
		}
	}
	return api.Found{Yes: true, Pairs: len(s.links)}, api.OK
}

// wait lets a set beside itself go at once: it would be left out in its turn, and as a rule it changes nothing till then.
func (s *search) wait(p pair) {
	if bitset.Equal(p.x, p.y) {
		s.pool.giveBack(p.x, p.y)
		return
	}
	p.rule = s.rules.add(p.x, p.y)
	s.waiting = append(s.waiting, p)
}

// longest gives the pair that has waited longest; it is none of the rules any more.
func (s *search) longest() pair {
	p := s.waiting[0]
	s.waiting = s.waiting[1:]
	s.rules.takeOut(p.rule)
	return p
}

// process makes a pair a rule for good, and goes through the pairs that are found from it, by the symbols, rising.
func (s *search) process(p pair) iter.Seq[pair] {
	s.rules.add(p.x, p.y)
	at := len(s.links)
	s.links = append(s.links, p.link)
	return func(yield func(pair) bool) {
		xs, ys := s.union.post(p.x, s.pool), s.union.post(p.y, s.pool)
		for k := range xs {
			if !yield(pair{x: xs[k], y: ys[k], link: api.Link{Parent: at, Sym: k}}) {
				return
			}
		}
	}
}

// no is the answer that a bad pair gives.
func (s *search) no(p pair) api.Found {
	f := api.Found{Has: true, Word: s.word(p.link), Side: 2, Pairs: len(s.links)}
	if s.union.accepts(p.x) {
		f.Side = 1
	}
	return f
}

// stretch is how many symbols each call of the recursion takes: a word can be longer than calls may be nested.
const stretch = 1000

// word gives the symbols that lead from the first pair to one with a link.
func (s *search) word(last api.Link) []int {
	var word []int
	var back func(link api.Link)
	back = func(link api.Link) {
		var symbols []int
		for link.Parent >= 0 && len(symbols) < stretch {
			symbols = append(symbols, link.Sym)
			link = s.links[link.Parent]
		}
		if link.Parent >= 0 {
			back(link)
		}
		for _, k := range slices.Backward(symbols) {
			word = append(word, k)
		}
	}
	back(last)
	return word
}
