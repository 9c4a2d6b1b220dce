package nfa_test

import (
	"slices"
	"testing"

	"wordset/api"
	"wordset/nfa"
	"wordset/testkit"
)

// example takes the words whose last two symbols are 1 0.
func example() api.Auto {
	return api.Auto{States: 3, Symbols: 2, Start: []int{0}, Final: []int{2}, Edges: []api.Edge{{From: 0, Sym: 0, To: 0}, {From: 0, Sym: 1, To: 0}, {From: 0, Sym: 1, To: 1}, {From: 1, Sym: 0, To: 2}}}
}

// chain has so many states, each with an edge to the next, and a loop at the last.
func chain(states int) api.Auto {
	a := api.Auto{States: states, Symbols: 1, Start: []int{0}, Final: []int{states - 1}}
	for p := range states {
		a.Edges = append(a.Edges, api.Edge{From: p, To: min(p+1, states-1)})
	}
	return a
}

// dense has so many edges, no two alike, over one symbol.
func dense(states, edges int) api.Auto {
	a := api.Auto{States: states, Symbols: 1}
	for i := range edges {
		a.Edges = append(a.Edges, api.Edge{From: i / states, To: i % states})
	}
	return a
}

func wantAuto(t *testing.T, call string, a api.Auto, e api.Errno, want api.Auto) {
	t.Helper()
	if e != api.OK || !testkit.SameAuto(a, want) {
		t.Errorf("%s: %v, %d; it should be %v", call, a, e, want)
	}
}

func wantNoAuto(t *testing.T, call string, a api.Auto, e, want api.Errno) {
	t.Helper()
	if e != want || !testkit.NoAuto(a) {
		t.Errorf("%s: %v, %d; it should be nothing, %d", call, a, e, want)
	}
}

func wantList(t *testing.T, call string, list []int, e api.Errno, want []int) {
	t.Helper()
	if e != api.OK || !slices.Equal(list, want) {
		t.Errorf("%s: %v, %d; it should be %v", call, list, e, want)
	}
}

func wantNoList(t *testing.T, call string, list []int, e, want api.Errno) {
	t.Helper()
	if e != want || list != nil {
		t.Errorf("%s: %v, %d; it should be nothing, %d", call, list, e, want)
	}
}

func wantTruth(t *testing.T, call string, yes bool, e api.Errno, want bool) {
	t.Helper()
	if e != api.OK || yes != want {
		t.Errorf("%s: %v, %d; it should be %v", call, yes, e, want)
	}
}

func wantNoTruth(t *testing.T, call string, yes bool, e, want api.Errno) {
	t.Helper()
	if e != want || yes {
		t.Errorf("%s: %v, %d; it should be false, %d", call, yes, e, want)
	}
}

// ends gives the states from which, or to which, an edge by a symbol leads, for one state.
func ends(a api.Auto, p, sym int, back bool) []int {
	var list []int
	for q := range a.States {
		e := api.Edge{From: p, Sym: sym, To: q}
		if back {
			e = api.Edge{From: q, Sym: sym, To: p}
		}
		if slices.Contains(a.Edges, e) {
			list = append(list, q)
		}
	}
	return list
}

// joined gives the numbers of several lists, rising, each once.
func joined(lists ...[]int) []int {
	all := slices.Concat(lists...)
	slices.Sort(all)
	return slices.Compact(all)
}

// lastOf gives the last states of lists, rising, each once.
func lastOf(lists [][]int) []int {
	var all []int
	for _, list := range lists {
		all = append(all, list[len(list)-1])
	}
	return joined(all)
}

// leastByEnds gives the least path of a word from the least ones of its rests; nil: none.
func leastByEnds(a api.Auto, word []int) []int {
	least := make([][]int, a.States)
	for _, p := range a.Final {
		least[p] = []int{p}
	}
	for i := len(word) - 1; i >= 0; i-- {
		longer := make([][]int, a.States)
		for _, e := range a.Edges {
			if e.Sym == word[i] && least[e.To] != nil {
				if list := append([]int{e.From}, least[e.To]...); longer[e.From] == nil || slices.Compare(list, longer[e.From]) < 0 {
					longer[e.From] = list
				}
			}
		}
		least = longer
	}
	var best []int
	for _, p := range a.Start {
		if least[p] != nil && (best == nil || slices.Compare(least[p], best) < 0) {
			best = least[p]
		}
	}
	return best
}

// valid leaves only automata that may be.
func valid(t *testing.T, a api.Auto) api.Auto {
	t.Helper()
	if e := nfa.Valid(a); e != api.OK {
		t.Fatalf("P6.1: Valid(%v) = %d", a, e)
	}
	return a
}
