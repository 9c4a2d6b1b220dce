package count

import "wordset/api"

// longestWay gives the number of edges of the longest way, -1 if there is no state; false: a way leads round. It takes an automaton in order whose states are all useful: then the longest way leads from a start to a final state.
func longestWay(a api.Auto) (int, bool) {
	g := newGraph(a)
	into := make([]int, g.States)
	for _, e := range g.Edges {
		into[e.To]++
	}
	var level []int
	for p, n := range into {
		if n == 0 {
			level = append(level, p)
		}
	}
	length, seen := -1, 0
	// Each level has the states whose longest way from the first level is one edge longer.
	for len(level) > 0 {
		length++
		seen += len(level)
		var next []int
		for _, p := range level {
			for _, e := range g.from(p) {
				into[e.To]--
				if into[e.To] == 0 {
					next = append(next, e.To)
				}
			}
		}
		level = next
	}
	return length, seen == g.States
}
