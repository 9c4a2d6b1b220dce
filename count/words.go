package count

import (
	"iter"

	"wordset/api"
	"wordset/bitset"
	"wordset/nfa"
)

// ends tells from which states a word of so many symbols leads to a final one.
type ends struct {
	back  graph // over the edges turned round
	sets  []*bitset.Set
	place map[string]int
	round int // above 0: the last so many sets come again and again
}

func newEnds(a api.Auto) *ends {
	back, _ := nfa.Reverse(a)
	e := &ends{back: newGraph(back), place: map[string]int{}}
	e.put(e.back.set(back.Start...))
	return e
}

func (e *ends) of(symbols int) *bitset.Set {
	for symbols >= len(e.sets) && e.round == 0 {
		e.put(e.before(e.sets[len(e.sets)-1]))
	}
	if symbols >= len(e.sets) {
		first := len(e.sets) - e.round
		symbols = first + (symbols-first)%e.round
	}
	return e.sets[symbols]
}

// put looks whether a set was there already: each hangs on the one ahead of it alone, so from there on all come again. Long words need no more sets than those.
func (e *ends) put(set *bitset.Set) {
	key := set.Key()
	if place, known := e.place[key]; known {
		e.round = len(e.sets) - place
		return
	}
	e.place[key] = len(e.sets)
	e.sets = append(e.sets, set)
}

// before gives the states from which a symbol leads to one of a set.
func (e *ends) before(set *bitset.Set) *bitset.Set {
	before := e.back.set()
	for p := set.Next(0); p >= 0; p = set.Next(p + 1) {
		for _, edge := range e.back.from(p) {
			before.Add(edge.To)
		}
	}
	return before
}

// speller tells words symbol by symbol.
type speller struct {
	graph
	ends *ends
	word []int // as far as it is told
}

// newSpeller takes an automaton in order.
func newSpeller(a api.Auto) *speller { return &speller{graph: newGraph(a), ends: newEnds(a)} }

// words goes through all words in length order. A word holds till the next one is asked for.
func (s *speller) words() iter.Seq[[]int] {
	return func(yield func([]int) bool) {
		s.word = nil
		// Where no state has a word of so many symbols, none has a longer one.
		for s.ends.of(len(s.word)).Count() > 0 {
			start := s.set(s.Start...)
			start.Cut(s.ends.of(len(s.word)))
			for word := range s.onward(start, 0) {
				if !yield(word) {
					return
				}
			}
			s.word = append(s.word, 0)
		}
	}
}

// onward goes through the words of one length that begin with the first so many symbols of the word so far and go on from a set of states, each of which has such a word. It calls itself just where words part: a word can have more symbols than calls could be nested, but it cannot part from others so often, for then too many would stand ahead of it.
func (s *speller) onward(from *bitset.Set, told int) iter.Seq[[]int] {
	return func(yield func([]int) bool) {
		if from.Count() == 0 {
			return
		}
		set := from
		for at := told; at < len(s.word); at++ {
			ways := s.ways(set, s.ends.of(len(s.word)-at-1))
			if len(ways) == 1 {
				s.word[at], set = ways[0].sym, ways[0].to
				continue
			}
			for _, w := range ways {
				s.word[at] = w.sym
				for word := range s.onward(w.to, at+1) {
					if !yield(word) {
						return
					}
				}
			}
			return
		}
		yield(s.word)
	}
}
