package witness

import (
	"slices"

	"wordset/api"
	"wordset/nfa"
)

// lean takes from a union in order, whose first so many states are those of the first automaton, the edges that make no difference to the words that show the no; and it tells which pairs make none.
func lean(query int, union api.Auto, first int) (api.Auto, func(pair set) bool) {
	ends := union.Final
	if !asksSecond(query) {
		split, _ := slices.BinarySearch(ends, first)
		ends = ends[:split]
	}
	alive := leadingTo(union, ends)
	union.Edges = slices.DeleteFunc(union.Edges, func(e api.Edge) bool { return !alive.has(e.To) })
	// Where the first automaton must take the word, none that leads to no state of it can begin one that shows the no.
	mustTake := !shown(query, false, false) && !shown(query, false, true)
	ofFirst := emptySet(union.States)
	for p := range first {
		ofFirst.add(p)
	}
	return union, func(pair set) bool { return mustTake && !pair.meets(ofFirst) }
}

// leadingTo gives the states from which one of some ends is reached.
func leadingTo(union api.Auto, ends []int) set {
	back, _ := nfa.Reverse(union)
	g := newGraph(back)
	seen := setOf(union.States, ends)
	for todo := slices.Clone(ends); len(todo) > 0; {
		p := todo[len(todo)-1]
		todo = todo[:len(todo)-1]
		for _, e := range g.from(p) {
			if !seen.has(e.To) {
				seen.add(e.To)
				todo = append(todo, e.To)
			}
		}
	}
	return seen
}
