package build

import (
	"iter"
	"math"

	"wordset/api"
)

// pair is a state of the first automaton and one of the second.
type pair = [2]int

// step tells what comes from a pair by a symbol.
type step func(from pair, sym int) iter.Seq[pair]

// search meets pairs, each of which is a state of what is made.
type search struct {
	step   step
	budget int
	number map[pair]int // by pair: which state it is
	pairs  []pair       // by state
	edges  []api.Edge
	ends   []int // room for the ends of one state's edges by one symbol
}

// together goes on in both.
func together(x, y rows) step {
	return func(from pair, sym int) iter.Seq[pair] {
		return func(yield func(pair) bool) {
			for _, p := range x.of(from[0], sym) {
				for _, q := range y.of(from[1], sym) {
					if !yield(pair{p, q}) {
						return
					}
				}
			}
		}
	}
}

// inTurn goes on in the first while the second waits, then the other way round.
func inTurn(x, y rows) step {
	return func(from pair, sym int) iter.Seq[pair] {
		return func(yield func(pair) bool) {
			for _, p := range x.of(from[0], sym) {
				if !yield(pair{p, from[1]}) {
					return
				}
			}
			for _, q := range y.of(from[1], sym) {
				if !yield(pair{from[0], q}) {
					return
				}
			}
		}
	}
}

// paired searches two automata together, by the step that steps makes of their rows.
func paired(a, b api.Auto, budget int, steps func(x, y rows) step) (api.Auto, []pair, api.Errno) {
	x, y, err := both(a, b)
	if err != api.OK {
		return api.Auto{}, nil, err
	}
	if budget <= 0 {
		budget = math.MaxInt
	}
	s := search{step: steps(newRows(x), newRows(y)), budget: budget, number: map[pair]int{}}
	c := api.Auto{Symbols: x.Symbols}
	if c.Start, err = s.begin(x.Start, y.Start); err != api.OK {
		return api.Auto{}, nil, err
	}
	if err = s.run(x.Symbols); err != api.OK {
		return api.Auto{}, nil, err
	}
	c.States, c.Edges = len(s.pairs), s.edges
	c.Final = s.ending(finals(x), finals(y))
	return c, s.pairs, api.OK
}

func (s *search) begin(first, second []int) ([]int, api.Errno) {
	var start []int
	for _, p := range first {
		for _, q := range second {
			n, err := s.meet(pair{p, q})
			if err != api.OK {
				return nil, err
			}
			start = append(start, n)
		}
	}
	return start, api.OK
}

// meet gives a pair's state: the next one, if it was not met yet.
func (s *search) meet(p pair) (int, api.Errno) {
	if n, ok := s.number[p]; ok {
		return n, api.OK
	}
	n := len(s.pairs)
	switch {
	case n >= s.budget:
		return 0, api.ErrBudget
	case n >= api.MaxStates:
		return 0, api.ErrSize
	}
	s.number[p] = n
	s.pairs = append(s.pairs, p)
	return n, api.OK
}

func (s *search) run(symbols int) api.Errno {
	for from := 0; from < len(s.pairs); from++ {
		for sym := range symbols {
			if err := s.follow(from, sym); err != api.OK {
				return err
			}
		}
		if s.lost() {
			return api.ErrSize
		}
	}
	if s.full() {
		return api.ErrSize
	}
	return api.OK
}

// follow keeps no edges above the limit: that there are some is enough.
func (s *search) follow(from, sym int) api.Errno {
	s.ends = s.ends[:0]
	for p := range s.step(s.pairs[from], sym) {
		n, err := s.meet(p)
		if err != api.OK {
			return err
		}
		if !s.full() {
			s.ends = append(s.ends, n)
		}
	}
	s.edges = lead(s.edges, from, sym, s.ends)
	return api.OK
}

func (s *search) full() bool { return len(s.edges) > api.MaxEdges }

// lost tells that ErrSize is the answer whatever is yet to be met: there are too many edges, and the budget is not used up ahead of the states.
func (s *search) lost() bool { return s.full() && s.budget > api.MaxStates }

// ending gives the states that are pairs of two final ones.
func (s *search) ending(first, second []bool) []int {
	var final []int
	for n, p := range s.pairs {
		if first[p[0]] && second[p[1]] {
			final = append(final, n)
		}
	}
	return final
}
