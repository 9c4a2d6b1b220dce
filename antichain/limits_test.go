package antichain_test

import (
	"math/rand/v2"
	"slices"
	"testing"

	"wordset/antichain"
	"wordset/api"
	"wordset/nfa"
	"wordset/testkit"
)

// TestMayNotBe: ErrAuto, and nothing else, whichever of both it is, whatever else is wrong.
func TestMayNotBe(t *testing.T) {
	good := testkit.Auto(3, 2, []int{2, 1}, []int{0, 0}, 0, 1, 1, 2, 0, 2)
	other, great := testkit.Auto(1, 3, []int{0}, []int{0}), testkit.Auto(4096, 2, nil, nil)
	wrong := append(testkit.Spoilt(good), api.Auto{Start: []int{0}}, api.Auto{Final: []int{0}}, testkit.Auto(1, 1, nil, nil, 0, 0, 1), testkit.Auto(1, 0, nil, nil, 0, 0, 0))
	for _, bad := range wrong {
		for _, beside := range []api.Auto{good, other, great, bad, {}} {
			for _, budget := range []int{0, 1, -1} {
				wantNone(t, bad, beside, budget, api.ErrAuto)
				wantNone(t, beside, bad, budget, api.ErrAuto)
			}
		}
	}
}

func TestOtherSymbols(t *testing.T) {
	for first := range 4 {
		for second := range 4 {
			a, b := testkit.Auto(1, first, []int{0}, []int{0}), testkit.Auto(2, second, []int{1}, []int{1})
			if first == second {
				wantSearch(t, a, b, false, 1, []api.Taken{taken(0, -1, -1, 1)}, -1)
			} else {
				wantNone(t, a, b, 1, api.ErrSymbols)
			}
		}
	}
	wantNone(t, testkit.Auto(4096, 1, nil, nil), testkit.Auto(4096, 2, nil, nil), 0, api.ErrSymbols)
}

// TestSizes: two automata may have together as many states and edges as one, edges that stand twice counted once. What is too much is told ahead of the search and its budget.
func TestSizes(t *testing.T) {
	bare := func(states int) api.Auto { return testkit.Auto(states, 1, nil, nil) }
	full, one := testkit.Crowd(256, 65536), loop()
	for _, c := range [][2]api.Auto{{bare(4096), bare(1)}, {bare(1), bare(4096)}, {bare(2049), bare(2048)}, {full, one}, {one, full}} {
		for _, budget := range []int{0, 1, -1, most} {
			wantNone(t, c[0], c[1], budget, api.ErrSize)
		}
	}
	wantIncludes(t, bare(4095), bare(1), true, api.Found{Yes: true})
	wantIncludes(t, bare(0), bare(4096), true, api.Found{Yes: true})
	less := testkit.Crowd(256, 65535)
	for range 2 {
		wantIncludes(t, less, one, false, api.Found{Yes: true, Pairs: 256})
		wantIncludes(t, less, one, true, api.Found{Yes: true})
		wantIncludes(t, one, less, false, api.Found{Yes: true, Pairs: 1})
		less.Edges = append(less.Edges, less.Edges[7])[:65536]
		one.Edges = slices.Repeat(one.Edges[:1], 65536)
		one.Start = slices.Repeat([]int{0}, 100000)
	}
}

// TestLongChain: as many states as may be, one pair for each; the word has one symbol less.
func TestLongChain(t *testing.T) {
	none := testkit.Auto(0, 1, nil, nil)
	for _, simul := range []bool{false, true} {
		wantIncludes(t, testkit.Chain(4096), none, simul, api.Found{Has: true, Word: make([]int, 4095), Side: 1, Pairs: 4096})
		kept, bad, e := antichain.Search(testkit.Chain(4096), none, simul, 4096)
		if e != api.OK || bad != 4095 || len(kept) != 4096 {
			t.Fatalf("P15.1: Search of a long chain: %d pairs, %d, %d", len(kept), bad, e)
		}
		for i, x := range kept {
			if x.State != i || len(x.Set) != 0 || x.Link != (api.Link{Parent: i - 1, Sym: min(i-1, 0)}) {
				t.Fatalf("P15.1: Search of a long chain: %v at %d", x, i)
			}
		}
	}
	wantNone(t, testkit.Chain(4096), none, 4095, api.ErrBudget)
	wantIncludes(t, none, testkit.Chain(4096), true, api.Found{Yes: true})
	wantIncludes(t, testkit.Chain(2048), testkit.Chain(2048), false, api.Found{Yes: true, Pairs: 2048})
	wantIncludes(t, testkit.Chain(2048), testkit.Chain(2048), true, api.Found{Yes: true})
}

// TestRings: two rings whose lengths have nothing in common meet in all pairs; the last of them is bad, so the word is as long as a word can be beside so many pairs.
func TestRings(t *testing.T) {
	for _, n := range []int{1, 2, 3, 8, 64, 65, 66, 129} {
		m := n + 1
		a, b := testkit.Circle(n, []int{n - 1}), testkit.Circle(m, testkit.Upto(m-1))
		for _, simul := range []bool{false, true} {
			kept, bad, e := antichain.Search(a, b, simul, n*m)
			if e != api.OK || bad != n*m-1 || len(kept) != n*m {
				t.Fatalf("P15.1: Search of rings of %d and %d: %d pairs, %d, %d", n, m, len(kept), bad, e)
			}
			for i, x := range kept {
				if x.State != i%n || !slices.Equal(x.Set, []int{i % m}) || x.Link != (api.Link{Parent: i - 1, Sym: min(i-1, 0)}) {
					t.Fatalf("P15.1: Search of rings of %d and %d: %v at %d", n, m, x, i)
				}
			}
			wantIncludes(t, a, b, simul, api.Found{Has: true, Word: make([]int, n*m-1), Side: 1, Pairs: n * m})
		}
		wantNone(t, a, b, n*m-1, api.ErrBudget)
		b.Final = append(b.Final, m-1)
		wantIncludes(t, a, b, false, api.Found{Yes: true, Pairs: n * m})
		wantIncludes(t, a, b, true, api.Found{Yes: true})
	}
}

// TestLetters: as a whole the second automaton would have 2^2047 sets; a few pairs are enough.
func TestLetters(t *testing.T) {
	wantIncludes(t, testkit.Letter(2048), testkit.Letter(2048), false, api.Found{Yes: true, Pairs: 2048})
	wantIncludes(t, testkit.Letter(2048), testkit.Letter(2048), true, api.Found{Yes: true})
}

// TestLettersLost: of the second automaton's states all but the first have lost their edges by the symbol 1, so that it lacks words of the first, none of them short.
func TestLettersLost(t *testing.T) {
	const n = 300
	a, b := testkit.Letter(n), testkit.Letter(n)
	b.Edges = slices.DeleteFunc(b.Edges, func(e api.Edge) bool { return e.Sym == 1 && e.From > 0 })
	for _, simul := range []bool{false, true} {
		f, e := antichain.Includes(a, b, simul, 0)
		if e != api.OK || f.Yes || len(f.Word) != n-1 || f.Pairs < n {
			t.Fatalf("P15.3: %d pairs, a word of %d symbols, %d", f.Pairs, len(f.Word), e)
		}
		first, e1 := nfa.Accepts(a, f.Word)
		second, e2 := nfa.Accepts(b, f.Word)
		if !first || second || e1 != api.OK || e2 != api.OK {
			t.Errorf("P15.3: the first has the word: %v, the second: %v", first, second)
		}
	}
}

// TestLarge: as many states, symbols and edges as may be, all states alike.
func TestLarge(t *testing.T) {
	a := api.Auto{States: 2048, Symbols: 128, Start: testkit.Upto(2048), Final: testkit.Upto(2048)}
	for p := range 2048 {
		for i := range 16 {
			a.Edges = append(a.Edges, api.Edge{From: p, Sym: 127, To: (p + i) % 2048})
		}
	}
	wantIncludes(t, a, a, false, api.Found{Yes: true, Pairs: 2048})
	wantIncludes(t, a, a, true, api.Found{Yes: true})
	b := a
	b.Final = nil
	wantIncludes(t, b, a, true, api.Found{Yes: true})
	a.Start = []int{5, 3}
	for _, simul := range []bool{false, true} {
		wantSearch(t, a, testkit.Auto(2048, 128, []int{0}, nil), simul, 1, []api.Taken{taken(3, -1, -1, 0)}, 0)
	}
}

// TestAllAlike: of as many states as may be, which are alike, the least one stands in the set; where there are two kinds, the least one of each.
func TestAllAlike(t *testing.T) {
	a := testkit.Auto(1, 2, []int{0}, nil, 0, 0, 0, 0, 1, 0)
	b := api.Auto{States: 4095, Symbols: 2, Start: testkit.Upto(4095)[7:]}
	for p := range 4095 {
		b.Edges = append(b.Edges, api.Edge{From: p, To: (p * p) % 4095})
	}
	wantSearch(t, a, b, true, 0, []api.Taken{taken(0, -1, -1, 7), taken(0, 0, 1)}, -1)
	for p := range 4095 {
		b.Edges[p] = api.Edge{From: p, Sym: p % 2, To: (p + 2) % 4094}
	}
	wantSearch(t, a, b, true, 0, []api.Taken{taken(0, -1, -1, 7, 8), taken(0, 0, 0, 10), taken(0, 0, 1, 9), taken(0, 1, 1)}, -1)
}

// TestAllSymbols: one pair for each of as many symbols as may be, found in their order.
func TestAllSymbols(t *testing.T) {
	a := api.Auto{States: 129, Symbols: 128, Start: []int{128}}
	b := api.Auto{States: 129, Symbols: 128, Start: []int{0}}
	want := []api.Taken{taken(128, -1, -1, 0)}
	for k := 127; k >= 0; k-- {
		a.Edges = append(a.Edges, api.Edge{From: 128, Sym: k, To: k})
		b.Edges = append(b.Edges, api.Edge{From: 0, Sym: k, To: k + 1})
	}
	for k := range 128 {
		want = append(want, taken(k, 0, k, k+1))
	}
	wantSearch(t, a, b, false, 129, want, -1)
	a.Final = []int{127}
	wantSearch(t, a, b, false, 129, want, 128)
	if kept, bad, e := antichain.Search(a, b, false, 128); kept != nil || bad != 0 || e != api.ErrBudget {
		t.Errorf("P15.1: Search with one pair too many: %d pairs, %d, %d", len(kept), bad, e)
	}
}

// odd draws what may be and what may not, most of it small.
func odd(d testkit.Draw) questions {
	a, b := d.Two(5, 2)
	q := questions{a, b, d(2) == 0, d.Odd()}
	switch d(6) {
	case 0:
		q.a = d.OddAuto()
	case 1:
		q.b = d.OddAuto()
	case 2:
		q.a, q.b = d.OddAuto(), d.OddAuto()
	case 3:
		q.b.Symbols = d(4)
	}
	return q
}

// large tells whether an automaton that may be takes long to go through.
func large(a api.Auto) bool { return a.States > 100 && a.States <= api.MaxStates }

// TestOdd: no call panics, beside an error stands nothing, and the errors come in their order.
func TestOdd(t *testing.T) {
	d := testkit.Draw(rand.New(rand.NewPCG(15, 4)).IntN)
	seen := map[api.Errno]int{}
	for range 20000 {
		q := odd(d)
		_, want := nfa.Union(q.a, q.b)
		if want == api.OK && (large(q.a) || large(q.b)) {
			continue // what is answered of so many states is looked at elsewhere
		}
		if want == api.OK && q.budget > 0 {
			if kept, _ := modelOf(q.a, q.b, q.simul).search(); len(kept) > q.budget {
				want = api.ErrBudget
			}
		}
		x := ask(q)
		if slices.ContainsFunc(x.Codes, func(e api.Errno) bool { return e != want }) || want != api.OK && !x.Nothing() {
			t.Fatalf("P15.6: %v: the codes are %v; each should be %d", q, x.Codes, want)
		}
		seen[want]++
	}
	for _, e := range []api.Errno{api.OK, api.ErrAuto, api.ErrSymbols, api.ErrSize, api.ErrBudget} {
		if seen[e] == 0 {
			t.Errorf("P15.6: nothing that was drawn led to %d: %v", e, seen)
		}
	}
}

func TestMemory(t *testing.T) {
	d := testkit.Draw(rand.New(rand.NewPCG(15, 5)).IntN)
	for i := range 3000 {
		q := odd(d)
		if i%2 == 0 {
			q.a, q.b = d.Related(5, 2)
		}
		if large(q.a) || large(q.b) {
			continue
		}
		var same [2]func() bool
		q.a, same[0] = testkit.RoomyAuto(q.a)
		q.b, same[1] = testkit.RoomyAuto(q.b)
		if wrong := testkit.Memory(func() testkit.Answers { return ask(q) }, func() bool { return same[0]() && same[1]() }); wrong != "" {
			t.Fatalf("P15.6: %s: %v", wrong, q)
		}
	}
}

// TestOrderMakesNoDifference: all lists may be handed in in any order, with doubles.
func TestOrderMakesNoDifference(t *testing.T) {
	d := testkit.Draw(rand.New(rand.NewPCG(15, 6)).IntN)
	for range 1000 {
		a, b := d.Related(6, 2)
		for _, simul := range []bool{false, true} {
			x := ask(questions{a, b, simul, 0})
			if !x.Same(ask(questions{d.Shuffled(a), d.Shuffled(b), simul, 0})) || !x.Same(ask(questions{testkit.InOrder(a), testkit.InOrder(b), simul, 0})) {
				t.Fatalf("P15.6: other answers in another order: %v, %v, simul %v", a, b, simul)
			}
		}
	}
}
