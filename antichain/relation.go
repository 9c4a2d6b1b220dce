package antichain

import (
	"slices"

	"wordset/api"
	"wordset/bitset"
	"wordset/simul"
)

// relation is the greatest forward simulation of two automata beside each other, as far as a search asks for it.
type relation struct {
	above   [][]int       // by state of the first: those of the first that it is below
	across  []*bitset.Set // by state of the first: those of the second that it is below
	below   []*bitset.Set // by state of the second: those of the second that are below it
	ousting []*bitset.Set // by state of the second: those of the second beside which it has no place in a least form
}

// relationOf takes the disjoint union of two automata, and how many of its states are the first one's.
func relationOf(union api.Auto, first int) relation {
	m, _ := simul.Forward(union) // nothing can go wrong: a union that was made may be
	second := m.N - first
	var r relation
	for _, row := range m.Rows[:first] {
		own, other := cut(row, first)
		r.above = append(r.above, own)
		r.across = append(r.across, setOf(second, other))
	}
	var over []*bitset.Set
	for _, row := range m.Rows[first:] {
		_, own := cut(row, first)
		over = append(over, setOf(second, own))
	}
	r.below = turned(over)
	for q := range over {
		r.ousting = append(r.ousting, ousting(q, over[q], r.below[q]))
	}
	return r
}

// ousting gives the states above a state, but for those that are below it too and have no lesser number: the state itself is one of these.
func ousting(q int, over, below *bitset.Set) *bitset.Set {
	set := over.Copy()
	for t := below.Next(q); t >= 0; t = below.Next(t + 1) {
		set.Remove(t)
	}
	return set
}

// cut parts a rising list of the union's states, which is nobody else's: those of the first automaton, and those of the second by their own numbers.
func cut(row []int, first int) ([]int, []int) {
	at, _ := slices.BinarySearch(row, first)
	for i := at; i < len(row); i++ {
		row[i] -= first
	}
	return row[:at], row[at:]
}

// turned gives a relation the other way round.
func turned(rows []*bitset.Set) []*bitset.Set {
	columns := make([]*bitset.Set, len(rows))
	for q := range columns {
		columns[q] = setOf(len(rows), nil)
	}
	for p, row := range rows {
		for q := range row.All() {
			columns[q].Add(p)
		}
	}
	return columns
}
