package nfa_test

import (
	"math/rand/v2"
	"slices"
	"testing"

	"wordset/api"
	"wordset/nfa"
	"wordset/testkit"
)

func TestValid(t *testing.T) {
	long := make([]int, 100000)
	for i, a := range []api.Auto{
		example(),
		{},
		{States: 1},
		{Symbols: 1},
		{States: 4096, Symbols: 128},
		{States: 4096, Symbols: 128, Start: []int{4095, 0}, Final: []int{0, 4095}, Edges: []api.Edge{{From: 4095, Sym: 127, To: 4095}}},
		{States: 1, Symbols: 1, Start: long, Final: long, Edges: make([]api.Edge, 65536)},
		{States: 2, Start: []int{1, 0, 1}, Final: []int{1, 1}},
		dense(256, 65536),
	} {
		if e := nfa.Valid(a); e != api.OK {
			t.Errorf("P6.1: Valid of the good one %d: %d", i, e)
		}
	}
	for i, a := range append(testkit.Spoilt(example()),
		api.Auto{Start: []int{0}},
		api.Auto{Final: []int{0}},
		api.Auto{States: 1, Edges: []api.Edge{{}}},
		api.Auto{Symbols: 1, Edges: []api.Edge{{}}},
		api.Auto{States: 3, Start: []int{0, 3, 1}},
		api.Auto{States: 3, Final: []int{-1, 1}},
		api.Auto{States: 2, Symbols: 1, Edges: []api.Edge{{To: 2}, {To: 1}}},
		api.Auto{States: 5000, Start: []int{4500}},
	) {
		if e := nfa.Valid(a); e != api.ErrAuto {
			t.Errorf("P6.1: Valid of the bad one %d: %d", i, e)
		}
	}
}

func TestNormal(t *testing.T) {
	a := example()
	slices.Reverse(a.Edges)
	a.Edges = append(a.Edges, a.Edges[0])
	b, e := nfa.Normal(a)
	wantAuto(t, "P6.1: Normal of the edges the other way round", b, e, example())
	for _, a := range []api.Auto{{}, {States: 3}, {Symbols: 3}, {States: 4096, Symbols: 128}} {
		b, e := nfa.Normal(a)
		wantAuto(t, "P6.1: Normal of what has no list", b, e, a)
	}
	long := make([]int, 100000)
	b, e = nfa.Normal(api.Auto{States: 1, Symbols: 1, Start: long, Final: long, Edges: make([]api.Edge, 65536)})
	wantAuto(t, "P6.1: Normal of many doubles", b, e, api.Auto{States: 1, Symbols: 1, Start: []int{0}, Final: []int{0}, Edges: []api.Edge{{}}})
	great := dense(256, 65536)
	slices.Reverse(great.Edges)
	b, e = nfa.Normal(great)
	wantAuto(t, "P6.1: Normal of many edges", b, e, dense(256, 65536))
}

func TestNormalDrawn(t *testing.T) {
	d := testkit.Draw(rand.New(rand.NewPCG(6, 1)).IntN)
	for range 3000 {
		a := valid(t, d.Auto(5, 4))
		want := testkit.InOrder(a)
		b, e := nfa.Normal(a)
		wantAuto(t, "P6.1: Normal", b, e, want)
		b, e = nfa.Normal(d.Shuffled(a))
		wantAuto(t, "P6.1: Normal, shuffled", b, e, want)
		if !nfa.Same(a, d.Shuffled(a)) || !nfa.Same(b, a) || !nfa.Same(a, a) {
			t.Errorf("P6.1: Same is false of one automaton in two orders: %v", a)
		}
		c := d.Auto(2, 1)
		if a2 := d.Auto(2, 1); nfa.Same(a2, c) != testkit.SameAuto(testkit.InOrder(a2), testkit.InOrder(c)) {
			t.Errorf("P6.1: Same(%v, %v)", a2, c)
		}
	}
}

func TestSame(t *testing.T) {
	a := example()
	b := example()
	b.Start, b.Final, b.Edges = []int{0, 0}, []int{2, 2}, append(b.Edges, b.Edges...)
	if !nfa.Same(a, b) || !nfa.Same(b, a) || !nfa.Same(api.Auto{}, api.Auto{Start: []int{}, Final: []int{}, Edges: []api.Edge{}}) {
		t.Errorf("P6.1: Same is false of the same sets")
	}
	for i, change := range []func(a *api.Auto){
		func(a *api.Auto) { a.States++ },
		func(a *api.Auto) { a.Symbols++ },
		func(a *api.Auto) { a.Start = nil },
		func(a *api.Auto) { a.Start = []int{1} },
		func(a *api.Auto) { a.Final = nil },
		func(a *api.Auto) { a.Final = []int{2, 0} },
		func(a *api.Auto) { a.Edges = nil },
		func(a *api.Auto) { a.Edges = a.Edges[1:] },
		func(a *api.Auto) { a.Edges[3].From = 2 },
		func(a *api.Auto) { a.Edges[3].Sym = 1 },
		func(a *api.Auto) { a.Edges[3].To = 1 },
	} {
		c := example()
		change(&c)
		if nfa.Same(a, valid(t, c)) || nfa.Same(c, a) || !nfa.Same(c, c) {
			t.Errorf("P6.1: Same with the change %d", i)
		}
	}
	for i, bad := range testkit.Spoilt(example()) {
		if nfa.Same(bad, bad) || nfa.Same(a, bad) || nfa.Same(bad, a) {
			t.Errorf("P6.1: Same is true of the bad one %d", i)
		}
	}
}

// TestBadAutomaton asks every call, with whatever else may be wrong: an automaton that may not be comes first.
func TestBadAutomaton(t *testing.T) {
	good := example()
	for _, bad := range testkit.Spoilt(good) {
		a, e := nfa.Normal(bad)
		wantNoAuto(t, "P6.1: Normal", a, e, api.ErrAuto)
		for _, list := range [][]int{nil, {0}, {9}} {
			for _, n := range []int{0, 9, -1} {
				l, e := nfa.Post(bad, list, n)
				wantNoList(t, "P6.2: Post", l, e, api.ErrAuto)
				l, e = nfa.Pre(bad, list, n)
				wantNoList(t, "P6.2: Pre", l, e, api.ErrAuto)
				a, e = nfa.Widen(bad, n, list)
				wantNoAuto(t, "P6.5: Widen", a, e, api.ErrAuto)
			}
			l, e := nfa.After(bad, list)
			wantNoList(t, "P6.3: After", l, e, api.ErrAuto)
			yes, e := nfa.Accepts(bad, list)
			wantNoTruth(t, "P6.3: Accepts", yes, e, api.ErrAuto)
			yes, e = nfa.Runs(bad, []int{0}, list)
			wantNoTruth(t, "P6.4: Runs", yes, e, api.ErrAuto)
			l, e = nfa.Path(bad, list)
			wantNoList(t, "P6.4: Path", l, e, api.ErrAuto)
		}
		a, e = nfa.Reverse(bad)
		wantNoAuto(t, "P6.5: Reverse", a, e, api.ErrAuto)
		for _, other := range []api.Auto{good, bad, {Symbols: 7}, {States: 4096, Symbols: 2}} {
			a, e = nfa.Union(bad, other)
			wantNoAuto(t, "P6.5: Union, the first", a, e, api.ErrAuto)
			a, e = nfa.Union(other, bad)
			wantNoAuto(t, "P6.5: Union, the second", a, e, api.ErrAuto)
		}
	}
}
