package subset_test

import (
	"math/rand/v2"
	"slices"
	"testing"

	"wordset/api"
	"wordset/subset"
	"wordset/testkit"
)

func TestExamples(t *testing.T) {
	m := testkit.Dfa(2, 2, 0, []int{1}, 0, 1, 0, 1)
	for _, budget := range []int{0, 2, 3, -1, least, most} {
		wantMake(t, last(), budget, m, [][]int{{0}, {0, 1}})
	}
	wantNoMake(t, last(), 1, api.ErrBudget)
	wantMake(t, api.Auto{Symbols: 1}, 0, testkit.Dfa(1, 1, 0, nil, 0), [][]int{{}})
	if one, e := subset.Single(last()); one || e != api.OK {
		t.Errorf("P11.3: Single: %v, %d", one, e)
	}
	d, e := subset.Complete(last())
	wantError(t, "P11.3: Complete", d, e, api.ErrShape)
	wantComplete(t, testkit.Auto(1, 1, []int{0}, []int{0}), testkit.Dfa(2, 1, 0, []int{0}, 1, 1))
	wantComplete(t, api.Auto{Symbols: 2}, testkit.Dfa(1, 2, 0, nil, 0, 0))
	d, e = subset.Turn(m)
	wantDfa(t, "P11.4: Turn", d, e, testkit.Dfa(2, 2, 0, []int{0}, 0, 1, 0, 1))
	wantJoin(t, m, m, 6, 0, testkit.Dfa(2, 2, 0, nil, 0, 1, 0, 1), [][2]int{{0, 0}, {1, 1}})
	wantNoJoin(t, m, m, 16, 0, api.ErrArg)
	wantNoJoin(t, m, m, 6, 1, api.ErrBudget)
	wantAfter(t, m, []int{0, 1}, 1, true, api.OK)
	wantAfter(t, m, nil, 0, false, api.OK)
	wantAfter(t, m, []int{2}, 0, false, api.ErrWord)
	wantAuto(t, m, auto(2, []int{0}, []int{1}, 0, 0, 0, 0, 1, 1, 1, 0, 0, 1, 1, 1))
	for _, d := range []api.Dfa{{States: 1, Symbols: 1}, {}, {States: 1, Start: 1}} {
		if e := subset.Valid(d); e != api.ErrDfa {
			t.Errorf("P11.1: Valid of %v: %d", d, e)
		}
	}
	wantNoMake(t, letter(14), 0, api.ErrSize)
	wantNoMake(t, letter(14), 4096, api.ErrBudget)
	if d := made(t, letter(13)); d.States != 4096 {
		t.Errorf("P11.2: Make of 13 states: %d states", d.States)
	}
}

// TestOrderOfSets: the sets' order is that in which they are met, not one of their numbers; edges, starts and finals stand in any order and twice.
func TestOrderOfSets(t *testing.T) {
	a := auto(4, []int{3, 1, 3}, []int{2, 0, 2}, 3, 1, 0, 1, 0, 2, 3, 0, 1, 3, 0, 1, 2, 1, 3, 0, 1, 3, 3, 1, 0)
	wantMake(t, a, 0, testkit.Dfa(7, 2, 0, []int{1, 2, 3}, 1, 2, 3, 4, 5, 4, 5, 4, 6, 2, 5, 5, 3, 5), [][]int{{1, 3}, {1, 2}, {0}, {2}, {3}, {}, {1}})
}

// TestEmptySet: it is met wherever a symbol leads nowhere, first among all if there is no start, and stays where it is.
func TestEmptySet(t *testing.T) {
	wantMake(t, api.Auto{}, 0, testkit.Dfa(1, 0, 0, nil), [][]int{{}})
	wantMake(t, auto(3, nil, []int{0, 1, 2}, 0, 0, 1), 1, testkit.Dfa(1, 2, 0, nil, 0, 0), [][]int{{}})
	wantMake(t, auto(2, []int{1}, []int{1}), 2, testkit.Dfa(2, 2, 0, []int{0}, 1, 1, 1, 1), [][]int{{1}, {}})
	wantNoMake(t, auto(2, []int{1}, []int{1}), 1, api.ErrBudget)
	wantMake(t, api.Auto{States: 3, Start: []int{2, 0}, Final: []int{0}}, 1, testkit.Dfa(1, 0, 0, []int{0}), [][]int{{0, 2}})
}

// TestMissing: what is missing is a start, a successor, both, nothing.
func TestMissing(t *testing.T) {
	wantComplete(t, auto(2, []int{1, 1}, []int{1, 0, 1}, 1, 1, 0, 0, 0, 1, 1, 0, 1, 0, 1, 0, 0, 0, 1), testkit.Dfa(2, 2, 1, []int{0, 1}, 1, 0, 1, 0))
	wantComplete(t, auto(2, []int{1}, []int{0}, 1, 1, 0, 0, 0, 1, 1, 0, 1), testkit.Dfa(3, 2, 1, []int{0}, 1, 2, 1, 0, 2, 2))
	wantComplete(t, auto(2, nil, []int{1}, 1, 1, 0, 0, 0, 1, 1, 0, 1, 0, 1, 0), testkit.Dfa(3, 2, 2, []int{1}, 1, 0, 1, 0, 2, 2))
	wantComplete(t, auto(2, nil, []int{1, 1}, 1, 1, 0), testkit.Dfa(3, 2, 2, []int{1}, 2, 2, 2, 0, 2, 2))
	wantComplete(t, api.Auto{}, testkit.Dfa(1, 0, 0, nil))
	wantComplete(t, api.Auto{States: 2}, testkit.Dfa(3, 0, 2, nil))
	wantComplete(t, api.Auto{States: 2, Start: []int{1}, Final: []int{0, 1}}, testkit.Dfa(2, 0, 1, []int{0, 1}))
}

// TestTwoWays: two starts, two successors, both; what stands twice does not count.
func TestTwoWays(t *testing.T) {
	for _, a := range []api.Auto{auto(2, []int{0, 1}, nil), auto(2, []int{0}, nil, 1, 1, 0, 0, 0, 0, 1, 1, 1), auto(2, nil, nil, 0, 0, 1, 0, 0, 0), auto(2, []int{1, 0, 1}, nil, 0, 1, 1, 0, 1, 0)} {
		if one, e := subset.Single(a); one || e != api.OK {
			t.Errorf("P11.3: Single of %v: %v, %d", a, one, e)
		}
		d, e := subset.Complete(a)
		wantError(t, "P11.3: Complete", d, e, api.ErrShape)
	}
	for _, a := range []api.Auto{auto(2, []int{1, 1}, []int{0, 1}), auto(2, []int{0}, nil, 1, 1, 0, 1, 0, 1, 0, 0, 0, 1, 1, 0, 0, 1, 0)} {
		if one, e := subset.Single(a); !one || e != api.OK {
			t.Errorf("P11.3: Single of %v: %v, %d", a, one, e)
		}
	}
}

// holdAuto holds the calls that take an automaton against the models.
func holdAuto(t *testing.T, a api.Auto) {
	t.Helper()
	want, sets := modelMake(a)
	wantMake(t, a, 0, want, sets)
	if modelSingle(a) {
		wantComplete(t, a, modelComplete(a))
		return
	}
	if one, e := subset.Single(a); one || e != api.OK {
		t.Fatalf("P11.3: Single of %v: %v, %d", a, one, e)
	}
	if d, e := subset.Complete(a); e != api.ErrShape || !testkit.NoDfa(d) {
		t.Fatalf("P11.3: Complete of %v: %v, %d", a, d, e)
	}
}

// holdWords holds Make and Complete against words of the automaton.
func holdWords(t *testing.T, a api.Auto, words [][]int) {
	t.Helper()
	d, sets, e := subset.Make(a, 0)
	if e != api.OK || subset.Valid(d) != api.OK || d.Start != 0 || d.States > 1<<a.States {
		t.Fatalf("P11.8: Make of %v: %v, %d", a, d, e)
	}
	c, single := subset.Complete(a)
	for _, w := range words {
		set := setAfter(a, w)
		if !slices.Equal(sets[testkit.Leads(d, w)], set) {
			t.Fatalf("P11.8: Make of %v: %v leads to %v; it should lead to %v", a, w, sets[testkit.Leads(d, w)], set)
		}
		taken := meets(set, a.Final)
		wantAfter(t, d, w, testkit.Leads(d, w), taken, api.OK)
		if single == api.OK {
			wantAfter(t, c, w, testkit.Leads(c, w), taken, api.OK)
		}
	}
	if all := setsOfWords(a, words); !testkit.SameGroup(sets, all) {
		t.Fatalf("P11.8: Make of %v: the sets are %v; words lead to %v", a, sets, all)
	}
}

// TestEvery: n states have at most 2^n sets, so words of 2^n - 1 symbols lead to all of them.
func TestEvery(t *testing.T) {
	for _, c := range []struct{ states, symbols, length int }{{0, 0, 0}, {0, 1, 1}, {0, 2, 2}, {1, 0, 0}, {1, 1, 2}, {1, 2, 3}, {2, 0, 0}, {2, 1, 4}, {2, 2, 4}, {3, 0, 0}, {3, 1, 8}} {
		words := testkit.Words(c.symbols, c.length)
		for a := range testkit.Every(c.states, c.symbols) {
			if c.states == 3 && c.symbols == 1 && len(a.Final) == 1 {
				continue // as much time again, and nothing new: the sets do not hang on the finals
			}
			holdAuto(t, a)
			holdWords(t, a, words)
		}
	}
}

// TestPaths: a word is taken just if it has a path.
func TestPaths(t *testing.T) {
	for a := range testkit.Every(2, 1) {
		d := made(t, a)
		for _, w := range testkit.Words(1, 5) {
			if taken, e := subset.Takes(d, w); e != api.OK || taken != testkit.Takes(a, w) {
				t.Fatalf("P11.8: Make of %v: Takes of %v: %v, %d", a, w, taken, e)
			}
		}
	}
}

func TestDrawn(t *testing.T) {
	d := testkit.Draw(rand.New(rand.NewPCG(11, 1)).IntN)
	for range 1500 {
		holdAuto(t, d.Auto(5, 3))
	}
	for range 1500 {
		a := d.Auto(4, 2)
		a.Start = a.Start[:min(len(a.Start), 1)]
		a = testkit.InOrder(a)
		a.Edges = slices.CompactFunc(a.Edges, func(x, y api.Edge) bool { return x.From == y.From && x.Sym == y.Sym })
		holdAuto(t, d.Shuffled(a))
	}
}

// TestMadeAgain: Auto of what was made goes one way, and what is made of that is the same again.
func TestMadeAgain(t *testing.T) {
	d := testkit.Draw(rand.New(rand.NewPCG(11, 2)).IntN)
	for range 1000 {
		m := made(t, d.Auto(5, 2))
		a, e := subset.Auto(m)
		if e != api.OK {
			t.Fatalf("P11.8: Auto of %v: %d", m, e)
		}
		wantComplete(t, a, m)
		var sets [][]int
		for s := range m.States {
			sets = append(sets, []int{s})
		}
		wantMake(t, a, m.States, m, sets)
		if m.States > 1 {
			wantNoMake(t, a, m.States-1, api.ErrBudget)
		}
	}
}

// TestEveryDfa: Turn, Auto and where words lead.
func TestEveryDfa(t *testing.T) {
	for _, c := range []struct{ states, symbols int }{{1, 0}, {1, 1}, {1, 2}, {2, 0}, {2, 1}, {2, 2}, {3, 0}, {3, 1}} {
		words := testkit.Words(c.symbols, 4)
		for d := range testkit.EveryDfa(c.states, c.symbols) {
			if e := subset.Valid(d); e != api.OK {
				t.Fatalf("P11.1: Valid of %v: %d", d, e)
			}
			turned, e := subset.Turn(d)
			wantDfa(t, "P11.4: Turn", turned, e, modelTurn(d))
			again, e := subset.Turn(turned)
			wantDfa(t, "P11.9: Turn of Turn", again, e, d)
			wantAuto(t, d, modelAuto(d))
			for _, w := range words {
				wantAfter(t, d, w, testkit.Leads(d, w), testkit.TakesDfa(d, w), api.OK)
				wantAfter(t, turned, w, testkit.Leads(d, w), !testkit.TakesDfa(d, w), api.OK)
			}
		}
	}
}

// TestAutoTakes: as an automaton it takes the same words.
func TestAutoTakes(t *testing.T) {
	for d := range testkit.EveryDfa(2, 2) {
		a, _ := subset.Auto(d)
		for _, w := range testkit.Words(2, 4) {
			if testkit.Takes(a, w) != testkit.TakesDfa(d, w) {
				t.Fatalf("P11.7: Auto of %v: %v", d, w)
			}
		}
	}
}

// TestEveryJoin: each of the sixteen ways, against how both take a word.
func TestEveryJoin(t *testing.T) {
	for _, c := range []struct{ states, other, symbols int }{{1, 1, 0}, {2, 1, 0}, {1, 1, 1}, {1, 2, 1}, {2, 1, 2}, {2, 2, 1}, {2, 3, 1}} {
		words := testkit.Words(c.symbols, 4)
		for d := range testkit.EveryDfa(c.states, c.symbols) {
			for e := range testkit.EveryDfa(c.other, c.symbols) {
				for op := range 16 {
					want, pairs := modelJoin(d, e, op)
					wantJoin(t, d, e, op, 0, want, pairs)
					holdJoin(t, d, e, op, words)
				}
			}
		}
	}
}

func holdJoin(t *testing.T, d, e api.Dfa, op int, words [][]int) {
	t.Helper()
	j, _, _ := subset.Join(d, e, op, 0)
	for _, w := range words {
		if testkit.TakesDfa(j, w) != hasBit(op, testkit.TakesDfa(d, w), testkit.TakesDfa(e, w)) {
			t.Fatalf("P11.9: Join of %v, %v, op %d: %v", d, e, op, w)
		}
	}
}

func TestDrawnJoin(t *testing.T) {
	d := testkit.Draw(rand.New(rand.NewPCG(11, 3)).IntN)
	for range 1000 {
		symbols := d(4)
		x, y, op := d.Dfa(6, symbols), d.Dfa(6, symbols), d(16)
		want, pairs := modelJoin(x, y, op)
		for _, budget := range []int{0, -1, least, most, len(pairs), len(pairs) + 1} {
			wantJoin(t, x, y, op, budget, want, pairs)
		}
		for budget := 1; budget < len(pairs); budget++ {
			wantNoJoin(t, x, y, op, budget, api.ErrBudget)
		}
		holdJoin(t, x, y, op, testkit.Words(symbols, 3))
	}
}

// TestJoinWithItself: what both or one of two alike takes is what each takes; just one takes nothing.
func TestJoinWithItself(t *testing.T) {
	d := testkit.Draw(rand.New(rand.NewPCG(11, 4)).IntN)
	for range 300 {
		x := d.Dfa(5, d(3))
		for _, w := range testkit.Words(x.Symbols, 5) {
			for op, want := range map[int]bool{8: testkit.TakesDfa(x, w), 14: testkit.TakesDfa(x, w), 6: false, 2: false, 9: true} {
				j, _, e := subset.Join(x, x, op, 0)
				if e != api.OK || testkit.TakesDfa(j, w) != want {
					t.Fatalf("P11.9: Join of %v with itself, op %d: %v, %d", x, op, w, e)
				}
			}
		}
	}
}

// TestBudgets: one set less than are met, as many, more, 0 and below.
func TestBudgets(t *testing.T) {
	d := testkit.Draw(rand.New(rand.NewPCG(11, 5)).IntN)
	for range 500 {
		a := d.Auto(5, 3)
		want, sets := modelMake(a)
		for _, budget := range []int{least, -1, len(sets), len(sets) + 1, most} {
			wantMake(t, a, budget, want, sets)
		}
		for budget := 1; budget < len(sets); budget++ {
			wantNoMake(t, a, budget, api.ErrBudget)
		}
	}
}

func TestDrawnDfas(t *testing.T) {
	d := testkit.Draw(rand.New(rand.NewPCG(11, 6)).IntN)
	for range 2000 {
		x := d.Dfa(7, d(4))
		turned, e := subset.Turn(x)
		wantDfa(t, "P11.4: Turn", turned, e, modelTurn(x))
		wantAuto(t, x, modelAuto(x))
		w := d.List(x.Symbols, d(12))
		wantAfter(t, x, w, testkit.Leads(x, w), testkit.TakesDfa(x, w), api.OK)
	}
}
