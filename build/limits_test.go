package build_test

import (
	"fmt"
	"math/rand/v2"
	"slices"
	"testing"

	"wordset/api"
	"wordset/build"
	"wordset/testkit"
)

// grid has so many states, all of them starts, and an edge from each to each by each symbol.
func grid(states, symbols int) api.Auto {
	a := api.Auto{States: states, Symbols: symbols, Start: testkit.Upto(states)}
	for i := range states * symbols * states {
		a.Edges = append(a.Edges, api.Edge{From: i / states / symbols, Sym: i / states % symbols, To: i % states})
	}
	return a
}

// loops has so many states, all of them starts, and a loop at each by each symbol.
func loops(states, symbols int) api.Auto {
	a := api.Auto{States: states, Symbols: symbols, Start: testkit.Upto(states)}
	for i := range states * symbols {
		a.Edges = append(a.Edges, api.Edge{From: i / symbols, Sym: i % symbols, To: i / symbols})
	}
	return a
}

// starts has so many states, all of them starts, and no edge.
func starts(states, symbols int) api.Auto {
	return api.Auto{States: states, Symbols: symbols, Start: testkit.Upto(states)}
}

// wantSizes holds what was made against how great it should be, and looks whether it is in order.
func wantSizes(t *testing.T, call string, a api.Auto, e api.Errno, states, edges int) {
	t.Helper()
	key := func(e api.Edge) int { return (e.From*api.MaxSymbols+e.Sym)*api.MaxStates + e.To }
	inOrder := slices.IsSortedFunc(a.Edges, func(x, y api.Edge) int { return key(x) - key(y) })
	if e != api.OK || a.States != states || len(a.Edges) != edges || !inOrder || len(slices.Compact(slices.Clone(a.Edges))) != edges {
		t.Errorf("%s: %d states, %d edges, %d; it should be %d and %d, in order", call, a.States, len(a.Edges), e, states, edges)
	}
}

func TestStates(t *testing.T) {
	for _, c := range []struct{ a, b int }{{4096, 0}, {0, 4096}, {2048, 2048}, {1, 4095}} {
		a, e := build.Union(starts(c.a, 1), starts(c.b, 1))
		wantAuto(t, "P8.1: Union, as many states as may be", a, e, starts(4096, 1))
		a, e = build.Concat(starts(c.a, 1), starts(c.b, 1))
		want := starts(4096, 1)
		want.Start = testkit.Upto(c.a)
		wantAuto(t, "P8.2: Concat, as many states as may be", a, e, want)
	}
	for _, c := range []struct{ a, b int }{{4096, 1}, {1, 4096}, {2048, 2049}, {4096, 4096}} {
		a, e := build.Union(starts(c.a, 1), starts(c.b, 1))
		wantError(t, "P8.1: Union, too many states", a, e, api.ErrSize)
		a, e = build.Concat(starts(c.a, 1), starts(c.b, 1))
		wantError(t, "P8.2: Concat, too many states", a, e, api.ErrSize)
	}
	a, e := build.Star(starts(4095, 1))
	want := starts(4096, 1)
	want.Final = []int{0}
	wantAuto(t, "P8.3: Star, as many states as may be", a, e, want)
	a, e = build.Star(api.Auto{States: 4096})
	wantError(t, "P8.3: Star, too many states", a, e, api.ErrSize)
}

func TestUnionEdges(t *testing.T) {
	full, one := grid(256, 1), loops(1, 1)
	a, e := build.Union(full, one)
	wantError(t, "P8.1: Union, too many edges", a, e, api.ErrSize)
	full.Edges[7] = full.Edges[8]
	one.Edges = slices.Repeat(one.Edges, api.MaxEdges)
	a, e = build.Union(full, one)
	wantSizes(t, "P8.1: Union, as many edges as may be and doubles", a, e, 257, 65536)
}

// TestConcatEdges: two final states behind one state and symbol make an edge to each start once.
func TestConcatEdges(t *testing.T) {
	a := grid(2, 128)
	a.Final = []int{1, 0}
	for _, c := range []struct {
		starts, edges int
		want          api.Errno
	}{{253, 256, api.OK}, {254, 0, api.OK}, {254, 1, api.ErrSize}, {253, 257, api.ErrSize}, {255, 0, api.ErrSize}, {4094, 0, api.ErrSize}} {
		b := starts(c.starts, 128)
		for i := range c.edges {
			b.Edges = append(b.Edges, api.Edge{From: i % 128, Sym: i / 128})
		}
		got, e := build.Concat(a, b)
		call := fmt.Sprintf("P8.2: Concat with %d starts and %d edges", c.starts, c.edges)
		if c.want == api.OK {
			wantSizes(t, call, got, e, 2+c.starts, 65536)
			continue
		}
		wantError(t, call, got, e, c.want)
	}
	many := api.Auto{States: 512, Symbols: 128, Final: []int{0}}
	for i := range 65536 {
		many.Edges = append(many.Edges, api.Edge{From: i / 128, Sym: i % 128})
	}
	got, e := build.Concat(many, starts(3584, 128))
	wantError(t, "P8.2: Concat, very many edges", got, e, api.ErrSize)
	got, e = build.Concat(many, starts(0, 128))
	wantSizes(t, "P8.2: Concat, as many edges as may be", got, e, 512, 65536)
}

// TestStarEdges: an edge back to a start that is there already counts once.
func TestStarEdges(t *testing.T) {
	a := grid(256, 1)
	a.Final = testkit.Upto(256)
	got, e := build.Star(a)
	wantSizes(t, "P8.3: Star, all edges back there", got, e, 257, 65536)
	a.Symbols, a.Start, a.Final = 2, []int{0}, []int{254}
	a.Edges[65535] = api.Edge{From: 255, Sym: 1, To: 254}
	got, e = build.Star(a)
	wantError(t, "P8.3: Star, one edge too many", got, e, api.ErrSize)
	a.Edges[0] = a.Edges[1]
	got, e = build.Star(a)
	wantError(t, "P8.3: Star, an edge that comes back", got, e, api.ErrSize)
	a.Edges[2] = a.Edges[1]
	got, e = build.Star(a)
	wantSizes(t, "P8.3: Star, as many edges as may be", got, e, 257, 65536)
}

// TestPairsAtLimit: in the beginning, or in the course of the search.
func TestPairsAtLimit(t *testing.T) {
	for name, f := range map[string]joint{"P8.4: Meet": build.Meet, "P8.5: Shuffle": build.Shuffle} {
		a, pairs, e := f(starts(64, 1), starts(64, 1), 4096)
		wantSizes(t, name+", as many states as may be", a, e, 4096, 0)
		if len(pairs) != 4096 || pairs[65] != [2]int{1, 1} {
			t.Errorf("%s: %d pairs", name, len(pairs))
		}
		for budget, want := range map[int]api.Errno{0: api.ErrSize, -1: api.ErrSize, 4097: api.ErrSize, 1 << 40: api.ErrSize, 4096: api.ErrBudget, 4095: api.ErrBudget, 1: api.ErrBudget} {
			wantNoPairs(t, fmt.Sprint(name+" of 4097 starts, budget ", budget), f, starts(17, 1), starts(241, 1), budget, want)
			wantNoPairs(t, fmt.Sprint(name+" of very many starts, budget ", budget), f, starts(4096, 1), starts(4096, 1), budget, want)
		}
	}
	chain := api.Auto{States: 4096, Symbols: 1, Start: []int{0}, Final: []int{4095}}
	for p := range 4095 {
		chain.Edges = append(chain.Edges, api.Edge{From: p, To: p + 1})
	}
	all := api.Auto{States: 1, Symbols: 1, Start: []int{0}, Final: []int{0}, Edges: []api.Edge{{}}}
	a, _, e := build.Meet(chain, all, 4096)
	wantAuto(t, "P8.4: Meet of a chain", a, e, chain)
	wantNoPairs(t, "P8.4: Meet of a chain", build.Meet, chain, all, 4095, api.ErrBudget)
	wantNoPairs(t, "P8.4: Meet of a chain and two", build.Meet, chain, grid(2, 1), 0, api.ErrSize)
	wantNoPairs(t, "P8.4: Meet of a chain and two", build.Meet, chain, grid(2, 1), 4096, api.ErrBudget)
	a, _, e = build.Shuffle(chain, api.Auto{States: 1, Symbols: 1, Start: []int{0}, Final: []int{0}}, 4096)
	wantAuto(t, "P8.5: Shuffle of a chain", a, e, chain)
	wantNoPairs(t, "P8.5: Shuffle of two chains", build.Shuffle, chain, chain, 0, api.ErrSize)
	wantNoPairs(t, "P8.5: Shuffle of two chains", build.Shuffle, chain, chain, 4096, api.ErrBudget)
	wantNoPairs(t, "P8.5: Shuffle of two chains", build.Shuffle, chain, chain, 4097, api.ErrSize)
}

// TestMeetEdges: edges are counted when all pairs have been met, so a budget is used up ahead of them.
func TestMeetEdges(t *testing.T) {
	a := grid(16, 1)
	for _, budget := range []int{0, 256, 4096, 4097} {
		got, _, e := build.Meet(a, a, budget)
		wantSizes(t, "P8.4: Meet, as many edges as may be", got, e, 256, 65536)
	}
	a.Symbols = 2
	a.Edges = append(a.Edges, api.Edge{Sym: 1})
	for budget, want := range map[int]api.Errno{0: api.ErrSize, 255: api.ErrBudget, 256: api.ErrSize, 257: api.ErrSize, 4096: api.ErrSize, 4097: api.ErrSize} {
		wantNoPairs(t, fmt.Sprint("P8.4: Meet, one edge too many, budget ", budget), build.Meet, a, a, budget, want)
	}
}

// TestVeryManyEdges has as many pairs as may be, with an edge from each to each.
func TestVeryManyEdges(t *testing.T) {
	a := grid(64, 1)
	for budget, want := range map[int]api.Errno{0: api.ErrSize, 4095: api.ErrBudget, 4096: api.ErrSize, 4097: api.ErrSize} {
		wantNoPairs(t, fmt.Sprint("P8.4: Meet, very many edges, budget ", budget), build.Meet, a, a, budget, want)
	}
}

// TestEdgesAheadOfPairs has too many edges long before it has too many pairs.
func TestEdgesAheadOfPairs(t *testing.T) {
	a := grid(17, 2)
	a.Edges = slices.DeleteFunc(a.Edges, func(e api.Edge) bool { return e.Sym == 1 })
	b := a
	b.Edges = append(slices.Clone(b.Edges), grid(2, 2).Edges...)
	const tail = 4000
	a.States += tail
	a.Edges = append(a.Edges, api.Edge{Sym: 1, To: 17})
	for i := range tail - 1 {
		a.Edges = append(a.Edges, api.Edge{From: 17 + i, Sym: 1, To: 18 + i})
	}
	for budget, want := range map[int]api.Errno{0: api.ErrSize, 1000: api.ErrBudget, 4096: api.ErrBudget, 4097: api.ErrSize, 1 << 40: api.ErrSize} {
		wantNoPairs(t, fmt.Sprint("P8.4: Meet, too many edges, then too many pairs, budget ", budget), build.Meet, a, b, budget, want)
	}
}

// TestShuffleEdges: where both have a loop by one symbol, it is one edge.
func TestShuffleEdges(t *testing.T) {
	a, b := loops(16, 128), loops(32, 128)
	got, _, e := build.Shuffle(a, b, 512)
	wantSizes(t, "P8.5: Shuffle, as many edges as may be", got, e, 512, 65536)
	a.Edges = append(a.Edges, api.Edge{From: 3, Sym: 5, To: 2})
	b.Start = testkit.Upto(31)
	got, _, e = build.Shuffle(a, b, 0)
	wantSizes(t, "P8.5: Shuffle, fewer edges", got, e, 496, 496*128+31)
	b.Start = testkit.Upto(32)
	for budget, want := range map[int]api.Errno{0: api.ErrSize, 511: api.ErrBudget, 512: api.ErrSize, 5000: api.ErrSize} {
		wantNoPairs(t, fmt.Sprint("P8.5: Shuffle, too many edges, budget ", budget), build.Shuffle, a, b, budget, want)
	}
	a.Edges = slices.DeleteFunc(a.Edges, func(e api.Edge) bool { return e.From == 15 && e.To == 15 && e.Sym < 31 })
	b.Edges = slices.DeleteFunc(b.Edges, func(e api.Edge) bool { return e.From == 31 && e.Sym < 31 })
	wantNoPairs(t, "P8.5: Shuffle, one edge too many", build.Shuffle, a, b, 0, api.ErrSize)
	a.Edges = slices.DeleteFunc(a.Edges, func(e api.Edge) bool { return e.From == 15 && e.Sym < 32 })
	b.Edges = slices.DeleteFunc(b.Edges, func(e api.Edge) bool { return e.From == 31 && e.Sym < 32 })
	got, _, e = build.Shuffle(a, b, 0)
	wantSizes(t, "P8.5: Shuffle, just as many edges", got, e, 512, 65536)
}

func TestWrongAutomata(t *testing.T) {
	good := auto(5, []int{0, 4}, []int{3, 0}, 0, 0, 1, 1, 1, 3, 0, 1, 2)
	other := api.Auto{States: 4096, Symbols: 3}
	for _, bad := range append(testkit.Spoilt(good), api.Auto{Start: []int{0}}, api.Auto{Final: []int{0}}, auto(1, nil, nil, 0, 0, 1), api.Auto{States: 1, Edges: []api.Edge{{}}}) {
		for _, beside := range []api.Auto{good, other, bad} {
			for _, w := range [][]int{nil, {0}, {7}} {
				for _, budget := range []int{0, 1} {
					x := ask(bad, beside, w, -1, budget)
					y := ask(beside, bad, w, -1, budget)
					for i, e := range slices.Concat(x.Codes[:11], y.Codes[:2], y.Codes[3:7]) {
						if e != api.ErrAuto {
							t.Errorf("P8.11: call %d: %d states, %d symbols, starts %v, finals %v: %d", i, bad.States, bad.Symbols, bad.Start, bad.Final, e)
						}
					}
				}
			}
		}
	}
}

// TestOtherSymbols: that the two have not as many symbols comes ahead of what is too great.
func TestOtherSymbols(t *testing.T) {
	for _, c := range []struct{ a, b int }{{2, 3}, {3, 2}, {0, 1}, {128, 127}} {
		a, b := starts(4096, c.a), starts(4096, c.b)
		got, e := build.Union(a, b)
		wantError(t, "P8.1: Union, other symbols", got, e, api.ErrSymbols)
		got, e = build.Concat(a, b)
		wantError(t, "P8.2: Concat, other symbols", got, e, api.ErrSymbols)
		wantNoPairs(t, "P8.4: Meet, other symbols", build.Meet, a, b, 1, api.ErrSymbols)
		wantNoPairs(t, "P8.5: Shuffle, other symbols", build.Shuffle, a, b, 1, api.ErrSymbols)
	}
}

func TestWrongWords(t *testing.T) {
	a := auto(2, []int{0}, []int{1}, 0, 0, 1)
	for _, w := range [][]int{{2}, {-1}, {0, 2}, {1, 1, 2}, {2, 0}, {1 << 40}, {-1 << 63}} {
		got, e := build.Left(w, a)
		wantError(t, fmt.Sprint("P8.7: Left by ", w), got, e, api.ErrWord)
		got, e = build.Right(a, w)
		wantError(t, fmt.Sprint("P8.7: Right by ", w), got, e, api.ErrWord)
	}
	got, e := build.Left([]int{0}, api.Auto{States: 1})
	wantError(t, "P8.7: Left without symbols", got, e, api.ErrWord)
	got, e = build.Right(api.Auto{}, []int{0})
	wantError(t, "P8.7: Right without symbols", got, e, api.ErrWord)
}

// TestOdd asks with numbers from all ranges: no call panics, and beside an error stands nothing.
func TestOdd(t *testing.T) {
	d := testkit.Draw(rand.New(rand.NewPCG(8, 5)).IntN)
	good := 0
	for range 20000 {
		a, b, w, symbols, budget := d.OddAuto(), d.OddAuto(), d.OddList(), d.Odd(), d.Odd()
		x := ask(a, b, w, symbols, budget)
		if x.Codes[2] == api.OK {
			good++
		}
		autos := slices.Concat(x.Codes[:4], x.Codes[5:6], x.Codes[7:])
		for i, e := range autos {
			if e != api.OK && !testkit.NoAuto(x.Autos[i]) {
				t.Fatalf("P8.11: an automaton beside the error %d: %v, %v, %v, %d, %d", e, a, b, w, symbols, budget)
			}
		}
		if x.Codes[3] != api.OK && x.Twos[0] != nil || x.Codes[5] != api.OK && x.Twos[1] != nil {
			t.Fatalf("P8.11: pairs beside an error: %v, %v, %d", a, b, budget)
		}
	}
	if good == 0 {
		t.Errorf("no automaton that may be was drawn")
	}
}

func TestMemory(t *testing.T) {
	d := testkit.Draw(rand.New(rand.NewPCG(8, 6)).IntN)
	for i := range 1000 {
		a, b, w := two(d, 4)
		symbols, budget := a.Symbols, d(20)
		if i%4 == 0 {
			a, b, w, symbols, budget = d.OddAuto(), d.OddAuto(), d.OddList(), d.Odd(), d.Odd()
		}
		a, sameA := testkit.RoomyAuto(a)
		b, sameB := testkit.RoomyAuto(b)
		w, sameW := testkit.Roomy(w, 0)
		wrong := testkit.Memory(
			func() testkit.Answers { return ask(a, b, w, symbols, budget) },
			func() bool { return sameA() && sameB() && sameW() },
		)
		if wrong != "" {
			t.Fatalf("P8.11: %s: %v, %v, %v", wrong, a, b, w)
		}
	}
}

// TestOrderMakesNoDifference: lists may be handed in in any order, with doubles.
func TestOrderMakesNoDifference(t *testing.T) {
	d := testkit.Draw(rand.New(rand.NewPCG(8, 7)).IntN)
	for range 1000 {
		a, b, w := two(d, 4)
		want := ask(testkit.InOrder(a), testkit.InOrder(b), w, a.Symbols, 0)
		if !ask(d.Shuffled(a), d.Shuffled(b), w, a.Symbols, 0).Same(want) {
			t.Errorf("P8.11: other answers in another order: %v, %v, %v", a, b, w)
		}
	}
}
