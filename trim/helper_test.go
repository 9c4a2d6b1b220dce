package trim_test

import (
	"slices"
	"testing"

	"wordset/api"
	"wordset/testkit"
	"wordset/trim"
)

// auto gives an automaton of two symbols; its edges are From, Sym, To one behind the other.
func auto(states int, start, final []int, edges ...int) api.Auto {
	return testkit.Auto(states, 2, start, final, edges...)
}

// ways tells for each two states the number of edges of the shortest way from one to the other, -1: none, by trying the lengths one behind the other.
func ways(a api.Auto) [][]int {
	shortest := make([][]int, a.States)
	for p := range shortest {
		shortest[p] = make([]int, a.States)
		for q := range shortest[p] {
			shortest[p][q] = -1
		}
		ends := map[int]int{p: 1}
		for length := range a.States {
			for q := range ends {
				if shortest[p][q] < 0 {
					shortest[p][q] = length
				}
			}
			next := map[int]int{}
			for _, e := range a.Edges {
				if ends[e.From] == 1 {
					next[e.To] = 1
				}
			}
			ends = next
		}
	}
	return shortest
}

// told is what all calls should answer.
type told struct {
	reach, coreach, dist, old, word []int
	trim                            api.Auto
	empty                           bool
}

// model says the chapter's words on an automaton as plainly as can be.
func model(a api.Auto) told {
	var m told
	shortest := ways(a)
	number := make([]int, a.States)
	for p := range a.States {
		reached := slices.ContainsFunc(a.Start, func(s int) bool { return shortest[s][p] >= 0 })
		dist := -1
		for _, q := range a.Final {
			if n := shortest[p][q]; n >= 0 && (dist < 0 || n < dist) {
				dist = n
			}
		}
		m.dist = append(m.dist, dist)
		if reached {
			m.reach = append(m.reach, p)
		}
		if dist >= 0 {
			m.coreach = append(m.coreach, p)
		}
		number[p] = -1
		if reached && dist >= 0 {
			number[p] = len(m.old)
			m.old = append(m.old, p)
		}
	}
	m.trim = useful(a, number, len(m.old))
	m.word, m.empty = leastByEnds(a)
	return m
}

// useful gives the automaton of those states that have a new number.
func useful(a api.Auto, number []int, states int) api.Auto {
	b := api.Auto{States: states, Symbols: a.Symbols}
	for _, p := range a.Start {
		if number[p] >= 0 {
			b.Start = append(b.Start, number[p])
		}
	}
	for _, p := range a.Final {
		if number[p] >= 0 {
			b.Final = append(b.Final, number[p])
		}
	}
	for _, e := range a.Edges {
		if number[e.From] >= 0 && number[e.To] >= 0 {
			b.Edges = append(b.Edges, api.Edge{From: number[e.From], Sym: e.Sym, To: number[e.To]})
		}
	}
	return testkit.InOrder(b)
}

// leastByEnds gives the least word from the least ones of each length from each state; true: there is none.
func leastByEnds(a api.Auto) ([]int, bool) {
	least := make([][]int, a.States)
	for _, p := range a.Final {
		least[p] = []int{}
	}
	for range a.States {
		var best []int
		for _, p := range a.Start {
			if least[p] != nil && (best == nil || slices.Compare(least[p], best) < 0) {
				best = least[p]
			}
		}
		if best != nil {
			return best, false
		}
		longer := make([][]int, a.States)
		for _, e := range a.Edges {
			if least[e.To] == nil {
				continue
			}
			if word := append([]int{e.Sym}, least[e.To]...); longer[e.From] == nil || slices.Compare(word, longer[e.From]) < 0 {
				longer[e.From] = word
			}
		}
		least = longer
	}
	return nil, true
}

// ask asks all calls.
func ask(a api.Auto) testkit.Answers {
	var x testkit.Answers
	x.List(trim.Reach(a))
	x.List(trim.Coreach(a))
	x.List(trim.Dist(a))
	b, old, e := trim.Trim(a)
	x.Auto(b, e)
	x.List(old, e)
	empty, word, e := trim.Empty(a)
	x.Truth(empty, e)
	x.List(word, e)
	return x
}

// hold holds all calls against what they should answer.
func hold(t *testing.T, name string, a api.Auto, m told) {
	t.Helper()
	wantList := func(call string, list []int, e api.Errno, want []int) {
		t.Helper()
		if e != api.OK || !slices.Equal(list, want) {
			t.Errorf("%s of %s: %v, %d; it should be %v", call, name, list, e, want)
		}
	}
	list, e := trim.Reach(a)
	wantList("P7.2: Reach", list, e, m.reach)
	list, e = trim.Coreach(a)
	wantList("P7.2: Coreach", list, e, m.coreach)
	list, e = trim.Dist(a)
	wantList("P7.4: Dist", list, e, m.dist)
	b, old, e := trim.Trim(a)
	wantList("P7.3: Trim's old numbers", old, e, m.old)
	if !testkit.SameAuto(b, m.trim) {
		t.Errorf("P7.3: Trim of %s: %v; it should be %v", name, b, m.trim)
	}
	empty, word, e := trim.Empty(a)
	wantList("P7.5: Empty's word", word, e, m.word)
	if empty != m.empty || empty && word != nil {
		t.Errorf("P7.5: Empty of %s: %v, %v; it should be %v", name, empty, word, m.empty)
	}
}
