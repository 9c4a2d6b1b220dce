package subset

import (
	"wordset/api"
	"wordset/bitset"
)

// steps holds an automaton's edges laid out so that what follows a set by a symbol is found without a look at the edges of other symbols, nor at states that have none.
type steps struct {
	states int
	bySym  []symbolSteps
}

type symbolSteps struct {
	leaving *bitset.Set // the states from which the symbol leads anywhere
	ends    [][]int     // by state
}

func newSteps(a api.Auto) steps {
	t := steps{states: a.States, bySym: make([]symbolSteps, a.Symbols)}
	for sym := range t.bySym {
		t.bySym[sym] = symbolSteps{leaving: setOf(a.States, nil)}
	}
	for _, e := range a.Edges {
		s := &t.bySym[e.Sym]
		if s.ends == nil {
			s.ends = make([][]int, a.States)
		}
		s.leaving.Add(e.From)
		s.ends[e.From] = append(s.ends[e.From], e.To)
	}
	return t
}

// follow gives the set of all successors of a set's states.
func (t steps) follow(from *bitset.Set, sym int) *bitset.Set {
	s := t.bySym[sym]
	near, _ := bitset.Meet(from, s.leaving)
	reached := setOf(t.states, nil)
	for p := near.Next(0); p >= 0; p = near.Next(p + 1) {
		for _, q := range s.ends[p] {
			reached.Add(q)
		}
	}
	return reached
}

func listed(sets []*bitset.Set) [][]int {
	lists := make([][]int, len(sets))
	for i, s := range sets {
		lists[i] = s.List()
	}
	return lists
}
