package witness

import (
	"iter"
	"slices"

	"wordset/api"
)

// search goes through the pairs that words lead to. A pair is a set of states of the union of both automata: those of the first and those of the second.
type search struct {
	shows   func(pair set) bool // whether the words that lead to it show the no
	leftOut func(pair set) bool

	union graph
	start set
	next  []set // by symbol: where it leads from the pair that was asked last
	known map[string]struct{}
	pairs []string
	links []api.Link
}

// newSearch takes a union in order, whose first so many states are those of the first automaton. Where pairs are counted all of them must be gone through; else those that make no difference are left out.
func newSearch(query int, union api.Auto, first int, counting bool) *search {
	split, _ := slices.BinarySearch(union.Final, first)
	ends := [2]set{setOf(union.States, union.Final[:split]), setOf(union.States, union.Final[split:])}
	s := &search{known: map[string]struct{}{}}
	s.shows = func(pair set) bool { return shown(query, pair.meets(ends[0]), pair.meets(ends[1])) }
	s.leftOut = func(set) bool { return false }
	if !counting {
		union, s.leftOut = lean(query, union, first)
	}
	s.union, s.start = newGraph(union), setOf(union.States, union.Start)
	for range union.Symbols {
		s.next = append(s.next, emptySet(union.States))
	}
	return s
}

// reached goes through the pairs that words of at most so many symbols lead to, below 0 any number, in length order of the words: each once, with its place. A pair holds till the next one is asked for.
func (s *search) reached(most int) iter.Seq2[int, set] {
	return func(yield func(int, set) bool) {
		if !s.reach(s.start, api.Link{Parent: -1, Sym: -1}, yield) {
			return
		}
		at := 0
		// The length is never below 0, so no such most ends the loop.
		for length := 0; length != most && at < len(s.pairs); length++ {
			for end := len(s.pairs); at < end; at++ {
				for k, pair := range s.post(set(s.pairs[at])) {
					if !s.reach(pair, api.Link{Parent: at, Sym: k}, yield) {
						return
					}
				}
			}
		}
	}
}

// reach hands a pair on if it is new, and tells whether to go on.
func (s *search) reach(pair set, link api.Link, yield func(int, set) bool) bool {
	if _, known := s.known[string(pair)]; known || s.leftOut(pair) {
		return true
	}
	text := string(pair)
	s.known[text] = struct{}{}
	s.pairs = append(s.pairs, text)
	s.links = append(s.links, link)
	return yield(len(s.pairs)-1, pair)
}

// post gives, by symbol, the pair to which it leads; what it gave holds till it is asked again.
func (s *search) post(pair set) []set {
	for _, ends := range s.next {
		clear(ends)
	}
	for p := range pair.states() {
		for _, e := range s.union.from(p) {
			s.next[e.Sym].add(e.To)
		}
	}
	return s.next
}
