package build_test

import (
	"fmt"
	"math/rand/v2"
	"slices"
	"testing"

	"wordset/api"
	"wordset/build"
	"wordset/testkit"
)

// word gives the automaton of one word over two symbols, by hand.
func word(w ...int) api.Auto {
	a := api.Auto{States: len(w) + 1, Symbols: 2, Start: []int{0}, Final: []int{len(w)}}
	for i, k := range w {
		a.Edges = append(a.Edges, api.Edge{From: i, Sym: k, To: i + 1})
	}
	return a
}

func TestExamples(t *testing.T) {
	x, y, none := word(0), word(1), api.Auto{Symbols: 2}
	one, e := build.One([]int{0}, 2)
	wantAuto(t, "P8.8: One", one, e, x)
	c, e := build.Union(x, y)
	wantAuto(t, "P8.1: Union", c, e, auto(4, []int{0, 2}, []int{1, 3}, 0, 0, 1, 2, 1, 3))
	c, e = build.Concat(x, y)
	wantAuto(t, "P8.2: Concat", c, e, auto(4, []int{0}, []int{3}, 0, 0, 1, 0, 0, 2, 2, 1, 3))
	star, e := build.Star(x)
	wantAuto(t, "P8.3: Star", star, e, auto(3, []int{0, 1}, []int{0, 2}, 1, 0, 1, 1, 0, 2))
	c, e = build.Star(none)
	wantAuto(t, "P8.3: Star of None", c, e, auto(1, []int{0}, []int{0}))
	c, e = build.Prefixes(x)
	wantAuto(t, "P8.6: Prefixes", c, e, auto(2, []int{0}, []int{0, 1}, 0, 0, 1))
	c, e = build.Suffixes(x)
	wantAuto(t, "P8.6: Suffixes", c, e, auto(2, []int{0, 1}, []int{1}, 0, 0, 1))
	c, e = build.Left([]int{0}, x)
	wantAuto(t, "P8.7: Left", c, e, auto(2, []int{1}, []int{1}, 0, 0, 1))
	c, e = build.Left([]int{1}, x)
	wantAuto(t, "P8.7: Left", c, e, auto(2, nil, []int{1}, 0, 0, 1))
	c, e = build.Right(x, []int{0})
	wantAuto(t, "P8.7: Right", c, e, auto(2, []int{0}, []int{0}, 0, 0, 1))
	c, e = build.All(0)
	wantAuto(t, "P8.8: All(0)", c, e, api.Auto{States: 1, Start: []int{0}, Final: []int{0}})
}

func TestExamplesOfPairs(t *testing.T) {
	x, y := word(0), word(1)
	star := auto(3, []int{0, 1}, []int{0, 2}, 1, 0, 1, 1, 0, 2)
	wantMeet, pairs := auto(4, []int{0, 1}, []int{3}, 1, 0, 2, 1, 0, 3), [][2]int{{0, 0}, {1, 0}, {1, 1}, {2, 1}}
	for _, budget := range []int{0, 4, 5, -1, -1 << 63, 1<<63 - 1} {
		wantPairs(t, fmt.Sprint("P8.4: Meet, budget ", budget), build.Meet, star, x, budget, wantMeet, pairs)
	}
	for _, budget := range []int{1, 2, 3} {
		wantNoPairs(t, fmt.Sprint("P8.4: Meet, budget ", budget), build.Meet, star, x, budget, api.ErrBudget)
	}
	wantPairs(t, "P8.5: Shuffle", build.Shuffle, x, y, 0, auto(4, []int{0}, []int{3}, 0, 0, 1, 0, 1, 2, 1, 1, 3, 2, 0, 3), [][2]int{{0, 0}, {1, 0}, {0, 1}, {1, 1}})
}

// TestPairsInOrder: symbols come ahead of states, the first automaton's ahead of the second's, and pairs that were met keep their place.
func TestPairsInOrder(t *testing.T) {
	a := auto(3, []int{2, 0}, []int{1}, 0, 1, 0, 0, 0, 2, 0, 0, 1, 2, 1, 1)
	b := auto(3, []int{1}, []int{2, 0}, 1, 0, 2, 1, 0, 0, 1, 1, 1)
	wantPairs(t, "P8.4: Meet", build.Meet, a, b, 0,
		auto(7, []int{0, 1}, []int{2, 3}, 0, 0, 2, 0, 0, 3, 0, 0, 4, 0, 0, 5, 0, 1, 0, 1, 1, 6),
		[][2]int{{0, 1}, {2, 1}, {1, 0}, {1, 2}, {2, 0}, {2, 2}, {1, 1}})
	wantPairs(t, "P8.5: Shuffle", build.Shuffle, a, b, 0,
		auto(9, []int{0, 1}, []int{7, 8},
			0, 0, 1, 0, 0, 2, 0, 0, 3, 0, 0, 4, 0, 1, 0, 1, 0, 5, 1, 0, 6, 1, 1, 1, 1, 1, 2, 2, 0, 7, 2, 0, 8, 2, 1, 2,
			3, 0, 5, 3, 0, 7, 3, 1, 3, 4, 0, 6, 4, 0, 8, 4, 1, 4, 5, 1, 7, 6, 1, 8),
		[][2]int{{0, 1}, {2, 1}, {1, 1}, {0, 0}, {0, 2}, {2, 0}, {2, 2}, {1, 0}, {1, 2}})
}

// TestEmptyWord has a start that is final on neither side, on the one, on the other, on both.
func TestEmptyWord(t *testing.T) {
	with := auto(2, []int{0, 1}, []int{1}, 0, 0, 1)
	without := auto(2, []int{0}, []int{1}, 0, 1, 1)
	for _, c := range []struct {
		name         string
		a, b         api.Auto
		start, final []int
		edges        []int
	}{
		{"neither", without, without, []int{0}, []int{3}, []int{0, 1, 1, 0, 1, 2, 2, 1, 3}},
		{"the first", with, without, []int{0, 1, 2}, []int{3}, []int{0, 0, 1, 0, 0, 2, 2, 1, 3}},
		{"the second", without, with, []int{0}, []int{1, 3}, []int{0, 1, 1, 0, 1, 2, 0, 1, 3, 2, 0, 3}},
		{"both", with, with, []int{0, 1, 2, 3}, []int{1, 3}, []int{0, 0, 1, 0, 0, 2, 0, 0, 3, 2, 0, 3}},
	} {
		got, e := build.Concat(c.a, c.b)
		wantAuto(t, "P8.2: Concat, the empty word in "+c.name, got, e, auto(4, c.start, c.final, c.edges...))
	}
	got, e := build.Star(with)
	wantAuto(t, "P8.3: Star, the empty word in it", got, e, auto(3, []int{0, 1, 2}, []int{0, 2}, 1, 0, 1, 1, 0, 2))
}

func TestNothingInIt(t *testing.T) {
	for _, a := range []api.Auto{{}, {Symbols: 2}, {States: 2}, {States: 2, Symbols: 2}, {States: 2, Symbols: 1, Final: []int{0}}, {States: 2, Symbols: 1, Start: []int{1}}, {States: 2, Start: []int{1}, Final: []int{1}}, {States: 1, Symbols: 1, Edges: []api.Edge{{}}}} {
		hold(t, a, a, nil)
		b := api.Auto{Symbols: a.Symbols}
		hold(t, a, b, nil)
		hold(t, b, a, nil)
	}
}

// hold holds all calls that make an automaton out of two, or out of one and a word, against the model.
func hold(t *testing.T, a, b api.Auto, w []int) {
	t.Helper()
	of := fmt.Sprintf("of %v, %v, %v", a, b, w)
	c, e := build.Union(a, b)
	wantAuto(t, "P8.1: Union "+of, c, e, modelUnion(a, b))
	c, e = build.Concat(a, b)
	wantAuto(t, "P8.2: Concat "+of, c, e, modelConcat(a, b))
	c, e = build.Star(a)
	wantAuto(t, "P8.3: Star "+of, c, e, modelStar(a))
	want, pairs := modelMeet(a, b)
	wantPairs(t, "P8.4: Meet "+of, build.Meet, a, b, 0, want, pairs)
	want, pairs = modelShuffle(a, b)
	wantPairs(t, "P8.5: Shuffle "+of, build.Shuffle, a, b, 0, want, pairs)
	c, e = build.Prefixes(a)
	wantAuto(t, "P8.6: Prefixes "+of, c, e, modelPrefixes(a))
	c, e = build.Suffixes(a)
	wantAuto(t, "P8.6: Suffixes "+of, c, e, modelSuffixes(a))
	c, e = build.Left(w, a)
	wantAuto(t, "P8.7: Left "+of, c, e, modelLeft(w, a))
	c, e = build.Right(a, w)
	wantAuto(t, "P8.7: Right "+of, c, e, modelRight(a, w))
}

func TestEvery(t *testing.T) {
	for a := range testkit.Every(2, 1) {
		for b := range testkit.Every(1, 1) {
			hold(t, a, b, []int{0, 0})
			hold(t, b, a, []int{0})
		}
	}
}

// two draws two automata over as many symbols, and a word over them.
func two(d testkit.Draw, states int) (a, b api.Auto, w []int) {
	a, b = d.Auto(states, 2), d.Auto(states, 2)
	for a.Symbols != b.Symbols {
		b = d.Auto(states, 2)
	}
	return a, b, d.List(a.Symbols, d(4))
}

func TestDrawn(t *testing.T) {
	d := testkit.Draw(rand.New(rand.NewPCG(8, 1)).IntN)
	for range 3000 {
		a, b, w := two(d, 4)
		hold(t, a, b, w)
	}
}

// TestBudgets: one pair less than are met, as many, more, 0 and below.
func TestBudgets(t *testing.T) {
	d := testkit.Draw(rand.New(rand.NewPCG(8, 2)).IntN)
	for range 500 {
		a, b, _ := two(d, 4)
		for name, f := range map[string]joint{"P8.4: Meet": build.Meet, "P8.5: Shuffle": build.Shuffle} {
			want, pairs, _ := f(a, b, 0)
			for _, budget := range []int{-1 << 63, -1, len(pairs), len(pairs) + 1, 1<<63 - 1} {
				wantPairs(t, name, f, a, b, budget, want, pairs)
			}
			for budget := 1; budget < len(pairs); budget++ {
				wantNoPairs(t, name, f, a, b, budget, api.ErrBudget)
			}
		}
	}
}

func TestOne(t *testing.T) {
	for _, w := range [][]int{nil, {0}, {1}, {1, 1, 0}, {0, 1, 0, 1, 1}} {
		a, e := build.One(w, 2)
		wantAuto(t, "P8.8: One", a, e, word(w...))
	}
	a, e := build.One(nil, 0)
	wantAuto(t, "P8.8: One, no symbols", a, e, api.Auto{States: 1, Start: []int{0}, Final: []int{0}})
	a, e = build.One([]int{127}, 128)
	wantAuto(t, "P8.8: One, as many symbols as may be", a, e, api.Auto{States: 2, Symbols: 128, Start: []int{0}, Final: []int{1}, Edges: []api.Edge{{Sym: 127, To: 1}}})
	a, e = build.One(make([]int, 4095), 1)
	want := api.Auto{States: 4096, Symbols: 1, Start: []int{0}, Final: []int{4095}}
	for i := range 4095 {
		want.Edges = append(want.Edges, api.Edge{From: i, To: i + 1})
	}
	wantAuto(t, "P8.8: One, as long as may be", a, e, want)
	long := make([]int, 4096)
	for _, c := range []struct {
		w       []int
		symbols int
		want    api.Errno
	}{
		{[]int{2}, 2, api.ErrWord}, {[]int{0, 1, -1}, 2, api.ErrWord}, {[]int{0}, 0, api.ErrWord}, {[]int{0}, -1, api.ErrWord}, {[]int{-1}, -1, api.ErrWord}, {[]int{-2}, -1, api.ErrWord},
		{[]int{129}, 129, api.ErrWord}, {append(slices.Clone(long), 1), 1, api.ErrWord}, {append(slices.Clone(long), 129), 129, api.ErrWord}, {[]int{1 << 40}, 2, api.ErrWord}, {[]int{-1 << 63}, -1 << 63, api.ErrWord},
		{nil, -1, api.ErrArg}, {nil, 129, api.ErrArg}, {[]int{0}, 129, api.ErrArg}, {[]int{128}, 129, api.ErrArg}, {long, 129, api.ErrArg}, {nil, -1 << 63, api.ErrArg}, {[]int{5}, 1<<63 - 1, api.ErrArg},
		{long, 1, api.ErrSize}, {long, 128, api.ErrSize}, {make([]int, 100000), 1, api.ErrSize},
	} {
		a, e := build.One(c.w, c.symbols)
		wantError(t, fmt.Sprintf("P8.8: One of %d symbols over %d", len(c.w), c.symbols), a, e, c.want)
	}
}

func TestAllAndNone(t *testing.T) {
	for _, symbols := range []int{0, 1, 2, 3, 127, 128} {
		a, e := build.All(symbols)
		want := api.Auto{States: 1, Symbols: symbols, Start: []int{0}, Final: []int{0}}
		for k := range symbols {
			want.Edges = append(want.Edges, api.Edge{Sym: k})
		}
		wantAuto(t, "P8.8: All", a, e, want)
		a, e = build.None(symbols)
		wantAuto(t, "P8.8: None", a, e, api.Auto{Symbols: symbols})
	}
	for _, symbols := range []int{-1, 129, 1 << 40, -1 << 63, 1<<63 - 1} {
		a, e := build.All(symbols)
		wantError(t, fmt.Sprint("P8.8: All of ", symbols), a, e, api.ErrArg)
		a, e = build.None(symbols)
		wantError(t, fmt.Sprint("P8.8: None of ", symbols), a, e, api.ErrArg)
	}
}
