package build_test

import (
	"fmt"
	"slices"
	"testing"

	"wordset/api"
	"wordset/build"
	"wordset/nfa"
	"wordset/testkit"
)

// auto gives an automaton of two symbols; its edges are From, Sym, To one behind the other.
func auto(states int, start, final []int, edges ...int) api.Auto {
	return testkit.Auto(states, 2, start, final, edges...)
}

// sure gives what a call made that must be OK.
func sure(t *testing.T) func(a api.Auto, e api.Errno) api.Auto {
	return func(a api.Auto, e api.Errno) api.Auto {
		t.Helper()
		if e != api.OK {
			t.Fatalf("P8.11: error %d where all may be", e)
		}
		return a
	}
}

func wantAuto(t *testing.T, call string, a api.Auto, e api.Errno, want api.Auto) {
	t.Helper()
	if e != api.OK || !testkit.SameAuto(a, want) {
		t.Errorf("%s: %v, %d; it should be %v", call, a, e, want)
	}
}

func wantError(t *testing.T, call string, a api.Auto, e, want api.Errno) {
	t.Helper()
	if e != want || !testkit.NoAuto(a) {
		t.Errorf("%s: %d states, %d edges, %d; it should be nothing, %d", call, a.States, len(a.Edges), e, want)
	}
}

// joint is Meet or Shuffle.
type joint func(a, b api.Auto, budget int) (api.Auto, [][2]int, api.Errno)

func wantPairs(t *testing.T, call string, f joint, a, b api.Auto, budget int, want api.Auto, pairs [][2]int) {
	t.Helper()
	c, p, e := f(a, b, budget)
	wantAuto(t, call, c, e, want)
	if !slices.Equal(p, pairs) {
		t.Errorf("%s: the pairs are %v; they should be %v", call, p, pairs)
	}
}

func wantNoPairs(t *testing.T, call string, f joint, a, b api.Auto, budget int, want api.Errno) {
	t.Helper()
	c, p, e := f(a, b, budget)
	wantError(t, call, c, e, want)
	if p != nil {
		t.Errorf("%s: %d pairs beside an error", call, len(p))
	}
}

// sum gives the states of both, b's higher by a's, without b's starts and finals.
func sum(a, b api.Auto) api.Auto {
	c := api.Auto{States: a.States + b.States, Symbols: a.Symbols, Start: slices.Clone(a.Start), Edges: slices.Clone(a.Edges)}
	for _, e := range b.Edges {
		c.Edges = append(c.Edges, api.Edge{From: e.From + a.States, Sym: e.Sym, To: e.To + a.States})
	}
	return c
}

func higher(list []int, by int) []int {
	var out []int
	for _, n := range list {
		out = append(out, n+by)
	}
	return out
}

func shared(x, y []int) bool {
	return slices.ContainsFunc(x, func(n int) bool { return slices.Contains(y, n) })
}

func modelUnion(a, b api.Auto) api.Auto {
	c := sum(a, b)
	c.Start = append(c.Start, higher(b.Start, a.States)...)
	c.Final = append(slices.Clone(a.Final), higher(b.Final, a.States)...)
	return testkit.InOrder(c)
}

func modelConcat(a, b api.Auto) api.Auto {
	c := sum(a, b)
	for _, e := range a.Edges {
		for _, s := range b.Start {
			if slices.Contains(a.Final, e.To) {
				c.Edges = append(c.Edges, api.Edge{From: e.From, Sym: e.Sym, To: s + a.States})
			}
		}
	}
	if shared(a.Start, a.Final) {
		c.Start = append(c.Start, higher(b.Start, a.States)...)
	}
	c.Final = higher(b.Final, a.States)
	if shared(b.Start, b.Final) {
		c.Final = append(c.Final, a.Final...)
	}
	return testkit.InOrder(c)
}

func modelStar(a api.Auto) api.Auto {
	c := sum(api.Auto{States: 1, Symbols: a.Symbols}, a)
	c.Start, c.Final = append(higher(a.Start, 1), 0), append(higher(a.Final, 1), 0)
	for _, e := range a.Edges {
		for _, s := range a.Start {
			if slices.Contains(a.Final, e.To) {
				c.Edges = append(c.Edges, api.Edge{From: e.From + 1, Sym: e.Sym, To: s + 1})
			}
		}
	}
	return testkit.InOrder(c)
}

// modelMeet and modelShuffle say which edge leads from pair to pair, and in which order the pairs come from one.
func modelMeet(a, b api.Auto) (api.Auto, [][2]int) {
	edge := func(p [2]int, k int, q [2]int) bool {
		return slices.Contains(a.Edges, api.Edge{From: p[0], Sym: k, To: q[0]}) && slices.Contains(b.Edges, api.Edge{From: p[1], Sym: k, To: q[1]})
	}
	return modelPairs(a, b, edge, edge)
}

func modelShuffle(a, b api.Auto) (api.Auto, [][2]int) {
	first := func(p [2]int, k int, q [2]int) bool {
		return p[1] == q[1] && slices.Contains(a.Edges, api.Edge{From: p[0], Sym: k, To: q[0]})
	}
	second := func(p [2]int, k int, q [2]int) bool {
		return p[0] == q[0] && slices.Contains(b.Edges, api.Edge{From: p[1], Sym: k, To: q[1]})
	}
	return modelPairs(a, b, first, second)
}

func modelPairs(a, b api.Auto, edges ...func(p [2]int, k int, q [2]int) bool) (api.Auto, [][2]int) {
	var all, pairs [][2]int
	for p := range a.States {
		for q := range b.States {
			all = append(all, [2]int{p, q})
		}
	}
	c := api.Auto{Symbols: a.Symbols}
	for _, p := range all {
		if slices.Contains(a.Start, p[0]) && slices.Contains(b.Start, p[1]) {
			c.Start = append(c.Start, len(pairs))
			pairs = append(pairs, p)
		}
	}
	for i := 0; i < len(pairs); i++ {
		for k := range a.Symbols {
			for _, edge := range edges {
				for _, q := range all {
					if edge(pairs[i], k, q) && !slices.Contains(pairs, q) {
						pairs = append(pairs, q)
					}
				}
			}
		}
	}
	c.States = len(pairs)
	for i, p := range pairs {
		if slices.Contains(a.Final, p[0]) && slices.Contains(b.Final, p[1]) {
			c.Final = append(c.Final, i)
		}
		for k := range a.Symbols {
			for j, q := range pairs {
				if edges[0](p, k, q) || edges[1%len(edges)](p, k, q) {
					c.Edges = append(c.Edges, api.Edge{From: i, Sym: k, To: j})
				}
			}
		}
	}
	return c, pairs
}

// leads tells for each two states whether a way leads from the one to the other.
func leads(a api.Auto) [][]bool {
	way := make([][]bool, a.States)
	for p := range way {
		way[p] = make([]bool, a.States)
		way[p][p] = true
	}
	for _, e := range a.Edges {
		way[e.From][e.To] = true
	}
	for r := range way {
		for p := range way {
			for q := range way {
				way[p][q] = way[p][q] || way[p][r] && way[r][q]
			}
		}
	}
	return way
}

func modelPrefixes(a api.Auto) api.Auto {
	c, way := testkit.InOrder(a), leads(a)
	c.Final = slices.DeleteFunc(testkit.Upto(a.States), func(p int) bool {
		return !slices.ContainsFunc(a.Final, func(q int) bool { return way[p][q] })
	})
	return c
}

func modelSuffixes(a api.Auto) api.Auto {
	c, way := testkit.InOrder(a), leads(a)
	c.Start = slices.DeleteFunc(testkit.Upto(a.States), func(q int) bool {
		return !slices.ContainsFunc(a.Start, func(p int) bool { return way[p][q] })
	})
	return c
}

func modelLeft(w []int, a api.Auto) api.Auto {
	c := testkit.InOrder(a)
	c.Start = nil
	for _, track := range testkit.Tracks(a, w) {
		c.Start = append(c.Start, track[len(w)])
	}
	return testkit.InOrder(c)
}

func modelRight(a api.Auto, w []int) api.Auto {
	c := testkit.InOrder(a)
	c.Final = slices.DeleteFunc(testkit.Upto(a.States), func(p int) bool {
		from := a
		from.Start = []int{p}
		return !testkit.Takes(from, w)
	})
	return c
}

// language is which of some words an automaton takes, by the words as texts.
type language map[string]bool

func (l language) has(word []int) bool { return l[fmt.Sprint(word)] }

// languageOf tells the words up to a length by the path definition.
func languageOf(a api.Auto, length int) language {
	l := language{}
	for _, w := range testkit.Words(a.Symbols, length) {
		l[fmt.Sprint(w)] = testkit.Takes(a, w)
	}
	return l
}

// wantWords holds an automaton against what it should take, at all words up to a length.
func wantWords(t *testing.T, call string, a api.Auto, length int, want func(word []int) bool) {
	t.Helper()
	for _, w := range testkit.Words(a.Symbols, length) {
		if yes, e := nfa.Accepts(a, w); e != api.OK || yes != want(w) {
			t.Fatalf("%s: of %v: %v, %d; %v", call, w, yes, e, a)
		}
	}
}

func wantSameWords(t *testing.T, call string, a, b api.Auto, length int) {
	t.Helper()
	wantWords(t, call, a, length, func(word []int) bool {
		yes, _ := nfa.Accepts(b, word)
		return yes
	})
}

// ask asks all calls.
func ask(a, b api.Auto, w []int, symbols, budget int) testkit.Answers {
	var x testkit.Answers
	x.Auto(build.Union(a, b))
	x.Auto(build.Concat(a, b))
	x.Auto(build.Star(a))
	for _, f := range []joint{build.Meet, build.Shuffle} {
		c, pairs, e := f(a, b, budget)
		x.Auto(c, e)
		x.Pairs(pairs, e)
	}
	x.Auto(build.Prefixes(a))
	x.Auto(build.Suffixes(a))
	x.Auto(build.Left(w, a))
	x.Auto(build.Right(a, w))
	x.Auto(build.One(w, symbols))
	x.Auto(build.All(symbols))
	x.Auto(build.None(symbols))
	return x
}
