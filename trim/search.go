package trim

import (
	"wordset/api"
	"wordset/bitset"
)

// none stands for the length of a way where there is no way.
const none = -1

// search goes breadth first, so that it meets each state by a shortest way.
type search struct {
	along   func(api.Edge) (near, far int) // forward or back: from which end of an edge to which a step goes
	waiting ring[int]
	length  []int // by state: how many edges the shortest way has
}

func forward(e api.Edge) (near, far int) { return e.From, e.To }

func back(e api.Edge) (near, far int) { return e.To, e.From }

// lengths tells, by state, how many edges the shortest way has that goes along from one of some states to it.
func lengths(a api.Auto, from []int, along func(api.Edge) (near, far int)) []int {
	s := search{along: along, length: make([]int, a.States)}
	for p := range s.length {
		s.length[p] = none
	}
	for _, p := range from {
		s.meet(p, 0)
	}
	s.run(grouped(a, along))
	return s.length
}

// meet notes a state by the first way that comes to it: no later one is shorter.
func (s *search) meet(p, length int) {
	if s.length[p] == none {
		s.length[p] = length
		s.waiting.put(p)
	}
}

func (s *search) run(edges [][]api.Edge) {
	for p, ok := s.waiting.take(); ok; p, ok = s.waiting.take() {
		for _, e := range edges[p] {
			_, far := s.along(e)
			s.meet(far, s.length[p]+1)
		}
	}
}

// grouped gives the edges by their near ends, those of one state in the automaton's order.
func grouped(a api.Auto, along func(api.Edge) (near, far int)) [][]api.Edge {
	edges := make([][]api.Edge, a.States)
	for _, e := range a.Edges {
		near, _ := along(e)
		edges[near] = append(edges[near], e)
	}
	return edges
}

// met gives the states that a way leads to; no bound of an automaton is above bitset's, so nothing can go wrong.
func met(length []int) *bitset.Set {
	set, _ := bitset.New(len(length))
	for p, n := range length {
		if n != none {
			set.Add(p)
		}
	}
	return set
}

func reached(a api.Auto) *bitset.Set { return met(lengths(a, a.Start, forward)) }

func coreached(a api.Auto) *bitset.Set { return met(lengths(a, a.Final, back)) }
