package trim_test

import (
	"math/rand/v2"
	"slices"
	"testing"

	"wordset/api"
	"wordset/testkit"
	"wordset/trim"
)

// downhill has as many states as may be, each with an edge to the one before it; the last is the start.
func downhill() api.Auto {
	a := api.Auto{States: api.MaxStates, Symbols: api.MaxSymbols, Start: []int{api.MaxStates - 1}, Final: []int{0}}
	for p := 1; p < a.States; p++ {
		a.Edges = append(a.Edges, api.Edge{From: p, Sym: p % a.Symbols, To: p - 1})
	}
	return a
}

func TestLongestWord(t *testing.T) {
	a := downhill()
	all := testkit.Upto(a.States)
	m := told{reach: all, coreach: all, dist: all, old: all, trim: a}
	for p := a.States - 1; p > 0; p-- {
		m.word = append(m.word, p%a.Symbols)
	}
	hold(t, "as many states as may be, in a row", a, m)
}

// TestMostEdges has as many edges as may be: 256 states, each with an edge to each.
func TestMostEdges(t *testing.T) {
	const states = 256
	a := api.Auto{States: states, Symbols: 1, Start: []int{states - 1}, Final: []int{0}}
	for i := range states * states {
		a.Edges = append(a.Edges, api.Edge{From: i / states, To: i % states})
	}
	all := testkit.Upto(states)
	dist := slices.Repeat([]int{1}, states)
	dist[0] = 0
	hold(t, "as many edges as may be", a, told{reach: all, coreach: all, dist: dist, old: all, trim: a, word: []int{0}})
	a.Edges = slices.Repeat(a.Edges[:2], api.MaxEdges/2)
	hold(t, "as many edges as may be, two of them 32768 times", a, told{[]int{states - 1}, []int{0}, append([]int{0}, slices.Repeat([]int{-1}, states-1)...), nil, nil, api.Auto{Symbols: 1}, true})
}

// TestFan has many states that wait at one time, when others have been taken already.
func TestFan(t *testing.T) {
	const legs = (api.MaxStates - 2) / 2
	a := api.Auto{States: 2*legs + 2, Symbols: 2, Start: []int{0}, Final: []int{2*legs + 1}}
	for i := range legs {
		a.Edges = append(a.Edges, api.Edge{From: 0, Sym: 0, To: 1 + i}, api.Edge{From: 1 + i, Sym: 1, To: 1 + legs + i})
	}
	last := 2 * legs
	a.Edges = append(a.Edges, api.Edge{From: last, Sym: 1, To: last + 1})
	part := api.Auto{States: 4, Symbols: 2, Start: []int{0}, Final: []int{3}, Edges: []api.Edge{{From: 0, Sym: 0, To: 1}, {From: 1, Sym: 1, To: 2}, {From: 2, Sym: 1, To: 3}}}
	dist := slices.Repeat([]int{-1}, a.States)
	dist[0], dist[legs], dist[last], dist[last+1] = 3, 2, 1, 0
	hold(t, "a fan", a, told{testkit.Upto(a.States), []int{0, legs, last, last + 1}, dist, []int{0, legs, last, last + 1}, []int{0, 1, 1}, part, false})
}

func TestLongLists(t *testing.T) {
	a := auto(2, slices.Repeat([]int{1, 0}, 100000), slices.Repeat([]int{1}, 100000), 0, 1, 1)
	hold(t, "long lists", a, told{[]int{0, 1}, []int{0, 1}, []int{1, 0}, []int{0, 1}, nil, auto(2, []int{0, 1}, []int{1}, 0, 1, 1), false})
}

func TestWrongAutomata(t *testing.T) {
	wrong := testkit.Spoilt(auto(5, []int{0, 4}, []int{3, 0}, 0, 0, 1, 1, 1, 3, 0, 1, 2))
	for _, a := range append(wrong, api.Auto{Start: []int{0}}, api.Auto{Final: []int{0}}, auto(1, nil, nil, 0, 0, 1), api.Auto{States: 1, Edges: []api.Edge{{}}}) {
		x := ask(a)
		if !x.Nothing() || slices.ContainsFunc(x.Codes, func(e api.Errno) bool { return e != api.ErrAuto }) {
			t.Errorf("P7.1: %d states, %d symbols, starts %v, final states %v, %d edges: %v", a.States, a.Symbols, a.Start, a.Final, len(a.Edges), x.Codes)
		}
	}
}

// TestOdd asks with numbers from all ranges: no call panics, and all of them answer ErrAuto and nothing else, or none.
func TestOdd(t *testing.T) {
	d := testkit.Draw(rand.New(rand.NewPCG(7, 7)).IntN)
	good := 0
	for range 20000 {
		a := d.OddAuto()
		x := ask(a)
		codes := slices.Compact(slices.Clone(x.Codes))
		if len(codes) != 1 || codes[0] != api.OK && (codes[0] != api.ErrAuto || !x.Nothing()) {
			t.Fatalf("P7.1, P7.7: %v: %v", a, x)
		}
		if codes[0] == api.OK {
			good++
		}
	}
	if good == 0 {
		t.Errorf("no automaton that may be was drawn")
	}
}

func TestMemory(t *testing.T) {
	d := testkit.Draw(rand.New(rand.NewPCG(7, 8)).IntN)
	for i := range 1000 {
		a := d.Auto(6, 3)
		if i%4 == 0 {
			a = d.OddAuto()
		}
		a, same := testkit.RoomyAuto(a)
		if wrong := testkit.Memory(func() testkit.Answers { return ask(a) }, same); wrong != "" {
			t.Fatalf("P7.7: %s: %v", wrong, a)
		}
	}
}

// TestAgain asks in turn for two automata: what was asked before makes no difference.
func TestAgain(t *testing.T) {
	a, b := auto(3, []int{0}, []int{2}, 0, 1, 1, 1, 0, 2), auto(2, []int{1}, []int{1}, 1, 1, 1)
	first := ask(a)
	ask(b)
	ask(downhill())
	if !ask(a).Same(first) {
		t.Errorf("P7.7: another answer when asked again")
	}
	if _, _, e := trim.Trim(b); e != api.OK {
		t.Errorf("P7.3: Trim: %d", e)
	}
}
