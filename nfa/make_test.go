package nfa_test

import (
	"fmt"
	"math/rand/v2"
	"slices"
	"testing"

	"wordset/api"
	"wordset/nfa"
	"wordset/testkit"
)

func TestReverse(t *testing.T) {
	a, e := nfa.Reverse(example())
	wantAuto(t, "P6.5: Reverse", a, e, api.Auto{States: 3, Symbols: 2, Start: []int{2}, Final: []int{0}, Edges: []api.Edge{{From: 0, Sym: 0, To: 0}, {From: 0, Sym: 1, To: 0}, {From: 1, Sym: 1, To: 0}, {From: 2, Sym: 0, To: 1}}})
	for _, b := range []api.Auto{{}, {States: 2}, {Symbols: 2}, {States: 4096, Symbols: 128}} {
		a, e := nfa.Reverse(b)
		wantAuto(t, "P6.5: Reverse of what has no list", a, e, b)
	}
	a, e = nfa.Reverse(dense(256, 65536))
	wantAuto(t, "P6.5: Reverse of many edges", a, e, dense(256, 65536))
}

func backwards(word []int) []int {
	back := slices.Clone(word)
	slices.Reverse(back)
	return back
}

func TestReverseDrawn(t *testing.T) {
	d := testkit.Draw(rand.New(rand.NewPCG(6, 7)).IntN)
	for range 400 {
		a := d.Auto(4, 3)
		want := api.Auto{States: a.States, Symbols: a.Symbols, Start: a.Final, Final: a.Start}
		for _, e := range a.Edges {
			want.Edges = append(want.Edges, api.Edge{From: e.To, Sym: e.Sym, To: e.From})
		}
		b, e := nfa.Reverse(a)
		wantAuto(t, "P6.5: Reverse", b, e, testkit.InOrder(want))
		c, e := nfa.Reverse(b)
		wantAuto(t, "P6.7: Reverse twice", c, e, testkit.InOrder(a))
		for _, word := range testkit.Words(a.Symbols, 3) {
			yes, e := nfa.Accepts(b, backwards(word))
			wantTruth(t, fmt.Sprintf("P6.7: Reverse(%v) of %v", a, word), yes, e, testkit.Takes(a, word))
		}
	}
}

func TestUnion(t *testing.T) {
	a, e := nfa.Union(example(), example())
	wantAuto(t, "P6.5: Union", a, e, api.Auto{States: 6, Symbols: 2, Start: []int{0, 3}, Final: []int{2, 5}, Edges: []api.Edge{
		{From: 0, Sym: 0, To: 0}, {From: 0, Sym: 1, To: 0}, {From: 0, Sym: 1, To: 1}, {From: 1, Sym: 0, To: 2},
		{From: 3, Sym: 0, To: 3}, {From: 3, Sym: 1, To: 3}, {From: 3, Sym: 1, To: 4}, {From: 4, Sym: 0, To: 5}}})
	none := api.Auto{Symbols: 2}
	for _, pair := range [][2]api.Auto{{example(), none}, {none, example()}} {
		a, e = nfa.Union(pair[0], pair[1])
		wantAuto(t, "P6.5: Union with one without states", a, e, example())
	}
	a, e = nfa.Union(api.Auto{}, api.Auto{})
	wantAuto(t, "P6.5: Union of nothing", a, e, api.Auto{})
	for _, symbols := range []int{0, 1, 3, 128} {
		a, e = nfa.Union(example(), api.Auto{States: 4096, Symbols: symbols})
		wantNoAuto(t, "P6.5: Union, other symbols", a, e, api.ErrSymbols)
		a, e = nfa.Union(api.Auto{Symbols: symbols}, example())
		wantNoAuto(t, "P6.5: Union, other symbols", a, e, api.ErrSymbols)
	}
}

func TestUnionLimits(t *testing.T) {
	for _, c := range []struct{ a, b int }{{4096, 1}, {1, 4096}, {2048, 2049}, {4096, 4096}} {
		a, e := nfa.Union(api.Auto{States: c.a}, api.Auto{States: c.b})
		wantNoAuto(t, "P6.5: Union, too many states", a, e, api.ErrSize)
	}
	for _, c := range []struct{ a, b int }{{4096, 0}, {0, 4096}, {2048, 2048}, {4095, 1}} {
		a, e := nfa.Union(api.Auto{States: c.a}, api.Auto{States: c.b})
		wantAuto(t, "P6.5: Union, as many states as may be", a, e, api.Auto{States: 4096})
	}
	one := api.Auto{States: 1, Symbols: 1, Edges: []api.Edge{{}}}
	full := dense(300, 65536)
	almost := dense(300, 65536)
	almost.Edges[9] = almost.Edges[65535]
	doubled := api.Auto{States: 1, Symbols: 1, Edges: make([]api.Edge, 65536)}
	for i, pair := range [][2]api.Auto{{full, one}, {one, full}, {full, doubled}, {doubled, full}, {full, full}} {
		a, e := nfa.Union(pair[0], pair[1])
		wantNoAuto(t, fmt.Sprint("P6.5: Union, too many edges: ", i), a, e, api.ErrSize)
	}
	for i, pair := range [][2]api.Auto{{almost, one}, {one, almost}, {almost, doubled}, {doubled, almost}, {full, {Symbols: 1}}} {
		a, e := nfa.Union(pair[0], pair[1])
		if e != api.OK || len(a.Edges) != 65536 || nfa.Valid(a) != api.OK || !testkit.SameAuto(a, sorted(a)) {
			t.Errorf("P6.5: Union, as many edges as may be: %d: %d", i, e)
		}
	}
	a, e := nfa.Union(doubled, doubled)
	wantAuto(t, "P6.5: Union of doubles", a, e, api.Auto{States: 2, Symbols: 1, Edges: []api.Edge{{}, {From: 1, To: 1}}})
}

// sorted is testkit.InOrder for great automata.
func sorted(a api.Auto) api.Auto {
	edges := slices.Clone(a.Edges)
	key := func(e api.Edge) int { return (e.From*api.MaxSymbols+e.Sym)*api.MaxStates + e.To }
	slices.SortFunc(edges, func(x, y api.Edge) int { return key(x) - key(y) })
	return api.Auto{States: a.States, Symbols: a.Symbols, Start: joined(a.Start), Final: joined(a.Final), Edges: slices.Compact(edges)}
}

func TestUnionDrawn(t *testing.T) {
	d := testkit.Draw(rand.New(rand.NewPCG(6, 8)).IntN)
	for range 400 {
		a, b := d.Auto(3, 2), d.Auto(3, 2)
		u, e := nfa.Union(a, b)
		if a.Symbols != b.Symbols {
			wantNoAuto(t, "P6.5: Union", u, e, api.ErrSymbols)
			continue
		}
		want := api.Auto{States: a.States + b.States, Symbols: a.Symbols, Start: slices.Clone(a.Start), Final: slices.Clone(a.Final), Edges: slices.Clone(a.Edges)}
		for _, p := range b.Start {
			want.Start = append(want.Start, a.States+p)
		}
		for _, p := range b.Final {
			want.Final = append(want.Final, a.States+p)
		}
		for _, e := range b.Edges {
			want.Edges = append(want.Edges, api.Edge{From: a.States + e.From, Sym: e.Sym, To: a.States + e.To})
		}
		wantAuto(t, "P6.5: Union", u, e, testkit.InOrder(want))
		for _, word := range testkit.Words(a.Symbols, 3) {
			yes, e := nfa.Accepts(u, word)
			wantTruth(t, fmt.Sprintf("P6.7: Union(%v, %v) of %v", a, b, word), yes, e, testkit.Takes(a, word) || testkit.Takes(b, word))
		}
	}
}

func TestWiden(t *testing.T) {
	a, e := nfa.Widen(example(), 4, []int{3, 1})
	wantAuto(t, "P6.5: Widen", a, e, api.Auto{States: 3, Symbols: 4, Start: []int{0}, Final: []int{2}, Edges: []api.Edge{{From: 0, Sym: 1, To: 0}, {From: 0, Sym: 1, To: 1}, {From: 0, Sym: 3, To: 0}, {From: 1, Sym: 3, To: 2}}})
	a, e = nfa.Widen(example(), 2, []int{0, 1})
	wantAuto(t, "P6.5: Widen to the same", a, e, example())
	a, e = nfa.Widen(example(), 128, []int{127, 0})
	wantAuto(t, "P6.5: Widen to the limit", a, e, api.Auto{States: 3, Symbols: 128, Start: []int{0}, Final: []int{2}, Edges: []api.Edge{{From: 0, Sym: 0, To: 0}, {From: 0, Sym: 0, To: 1}, {From: 0, Sym: 127, To: 0}, {From: 1, Sym: 127, To: 2}}})
	for _, symbols := range []int{0, 1, 128} {
		a, e = nfa.Widen(api.Auto{States: 2, Start: []int{1, 1}, Final: []int{0}}, symbols, nil)
		wantAuto(t, "P6.5: Widen without symbols", a, e, api.Auto{States: 2, Symbols: symbols, Start: []int{1}, Final: []int{0}})
	}
	for _, c := range []struct {
		symbols int
		to      []int
	}{
		{4, []int{3}}, {4, []int{3, 3}}, {2, []int{0, 2}}, {129, []int{0, 1}}, {4, []int{0, -1}}, {4, []int{4, 0}}, {4, []int{0, 1, 2}},
		{4, nil}, {-1, nil}, {-1, []int{0, 1}}, {0, []int{0, 1}}, {1, []int{0, 0}}, {1, []int{0, 1}}, {8193, []int{0, 1}}, {8192, []int{0, 1}}, {1 << 40, []int{0, 1}}, {-1 << 63, []int{0, 1}},
		{128, []int{0, 128}}, {128, []int{1 << 40, 0}},
	} {
		a, e := nfa.Widen(example(), c.symbols, c.to)
		wantNoAuto(t, fmt.Sprintf("P6.5: Widen(%d, %v)", c.symbols, c.to), a, e, api.ErrArg)
	}
	for _, symbols := range []int{-1, 129} {
		a, e := nfa.Widen(api.Auto{}, symbols, nil)
		wantNoAuto(t, "P6.5: Widen, symbols out of range", a, e, api.ErrArg)
	}
}

func TestWidenDrawn(t *testing.T) {
	d := testkit.Draw(rand.New(rand.NewPCG(6, 9)).IntN)
	for range 400 {
		a := d.Auto(4, 3)
		symbols := a.Symbols + d(3)
		to := d.Shuffled(api.Auto{Start: numbers(symbols)}).Start
		to = once(to)[:a.Symbols]
		want := api.Auto{States: a.States, Symbols: symbols, Start: a.Start, Final: a.Final}
		for _, e := range a.Edges {
			want.Edges = append(want.Edges, api.Edge{From: e.From, Sym: to[e.Sym], To: e.To})
		}
		w, e := nfa.Widen(a, symbols, to)
		wantAuto(t, fmt.Sprintf("P6.5: Widen(%v, %d, %v)", a, symbols, to), w, e, testkit.InOrder(want))
		for _, word := range testkit.Words(symbols, 3) {
			from := make([]int, len(word))
			for i, k := range word {
				from[i] = slices.Index(to, k)
			}
			yes, e := nfa.Accepts(w, word)
			wantTruth(t, fmt.Sprintf("P6.7: Widen(%v, %d, %v) of %v", a, symbols, to, word), yes, e, !slices.Contains(from, -1) && testkit.Takes(a, from))
		}
	}
}

func numbers(n int) []int {
	list := make([]int, n)
	for i := range list {
		list[i] = i
	}
	return list
}

func once(list []int) []int {
	var out []int
	for _, n := range list {
		if !slices.Contains(out, n) {
			out = append(out, n)
		}
	}
	return out
}
