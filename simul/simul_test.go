package simul_test

import (
	"math/rand/v2"
	"slices"
	"testing"

	"wordset/api"
	"wordset/nfa"
	"wordset/simul"
	"wordset/testkit"
)

func TestExamples(t *testing.T) {
	a := testkit.Auto(3, 2, nil, []int{2}, 0, 0, 2, 1, 0, 2, 1, 1, 2)
	wantGreatest(t, a, false, relation([]int{0, 1}, []int{1}, []int{2}))
	b := testkit.Auto(4, 2, nil, []int{3}, 0, 0, 1, 0, 0, 2, 1, 1, 3, 2, 1, 3)
	m := relation([]int{0}, []int{1, 2}, []int{1, 2}, []int{3})
	wantGreatest(t, b, false, m)
	wantClasses(t, m, []int{0, 1, 1, 3})
	wantGreatest(t, testkit.Auto(3, 2, []int{0}, []int{1}, 1, 0, 2, 2, 1, 2), false, relation([]int{0, 1, 2}, []int{1}, []int{2}))
	wantGreatest(t, testkit.Auto(2, 2, []int{0}, nil, 0, 0, 1), true, relation([]int{0}, []int{1}))
	wantGreatest(t, testkit.Auto(2, 2, nil, nil, 0, 0, 1), true, relation([]int{0, 1}, []int{1}))
	wantBetween(t, testkit.Auto(1, 2, nil, nil), testkit.Auto(2, 2, nil, []int{0}), [][]int{{0, 1}})
	wantIs(t, a, relation([]int{0, 1}, []int{1}, []int{2}), false, true, -1, -1)
	wantIs(t, a, relation([]int{1, 0}, nil, []int{1, 2}), false, false, 2, 1)
	wantNoIs(t, a, relation(nil, nil), false, api.ErrArg)
	wantNoIs(t, a, relation(nil, []int{3}, nil), false, api.ErrArg)
	wantNoClasses(t, api.Matrix{N: -1})
}

// TestNoStates: the relation without rows is the only one.
func TestNoStates(t *testing.T) {
	for symbols := range 3 {
		none := testkit.Auto(0, symbols, nil, nil)
		one := testkit.Auto(1, symbols, nil, []int{0})
		for _, back := range []bool{false, true} {
			wantGreatest(t, none, back, relation())
			wantIs(t, none, relation(), back, true, -1, -1)
		}
		wantBetween(t, none, none, nil)
		wantBetween(t, none, one, nil)
		wantBetween(t, one, none, [][]int{nil})
	}
	wantClasses(t, relation(), nil)
}

// TestMarked: above a final state are final ones alone, above a start state start ones; the other marks make no difference.
func TestMarked(t *testing.T) {
	a := testkit.Auto(3, 1, []int{1, 1}, []int{2, 0, 2})
	wantGreatest(t, a, false, relation([]int{0, 2}, []int{0, 1, 2}, []int{0, 2}))
	wantGreatest(t, a, true, relation([]int{0, 1, 2}, []int{1}, []int{0, 1, 2}))
}

// TestFans: a state may need several edges of another, and a pair stands as long as one of them leads above: those that have some left stay, those that have none left go.
func TestFans(t *testing.T) {
	// by the first symbol 0 leads to 2, 1 to 2 and 3, 5 to 6; to the end, 4, lead 2 by the second symbol, 3 by the first, 6 by both
	a := testkit.Auto(7, 2, nil, []int{4}, 0, 0, 2, 1, 0, 2, 1, 0, 3, 2, 1, 4, 3, 0, 4, 5, 0, 6, 6, 0, 4, 6, 1, 4)
	want := relation([]int{0, 1, 5}, []int{1, 5}, []int{2, 6}, []int{3, 6}, []int{4}, []int{5}, []int{6})
	wantGreatest(t, a, false, want)
	wantGreatest(t, turnedRound(a), true, want)
	// 1 leads to three states, none of which is above 3: 5 and 6 lack its symbol, and 4 does not lead to the end by it
	b := testkit.Auto(8, 2, nil, []int{7}, 0, 0, 3, 1, 0, 4, 1, 0, 5, 1, 0, 6, 3, 0, 7, 4, 0, 3, 5, 1, 7)
	want = testkit.Greatest(b, false)
	wantGreatest(t, b, false, want)
	if testkit.HasPair(want, 0, 1) {
		t.Errorf("P13.1: %v", want)
	}
}

// TestChains: along a chain each pair hangs on the one behind it; the numbers rise and fall.
func TestChains(t *testing.T) {
	for n := 1; n <= 70; n += 23 {
		for _, rising := range []bool{false, true} {
			a := chain(n, 2, rising)
			at := func(p int) int { return place(n, p, rising) }
			wantGreatest(t, a, false, testkit.Relation(n, func(p, q int) bool { return p == q }))
			wantGreatest(t, a, true, testkit.Relation(n, func(p, q int) bool { return at(p) <= at(q) }))
			a.Final = nil
			wantGreatest(t, a, false, testkit.Relation(n, func(p, q int) bool { return at(p) >= at(q) }))
			a.Start = []int{place(n, n/2, rising)}
			wantGreatest(t, a, true, testkit.Relation(n, func(p, q int) bool {
				return p == q || at(p) < at(q) && at(p) < n/2
			}))
		}
	}
}

// chain leads from each state to the next one by all symbols, the last one final; the states are numbered along it, or against it.
func chain(n, symbols int, rising bool) api.Auto {
	a := api.Auto{States: n, Symbols: symbols, Final: []int{place(n, n-1, rising)}}
	for p := range n - 1 {
		for k := range symbols {
			a.Edges = append(a.Edges, api.Edge{From: place(n, p, rising), Sym: k, To: place(n, p+1, rising)})
		}
	}
	return a
}

func place(n, p int, rising bool) int {
	if rising {
		return p
	}
	return n - 1 - p
}

// hold holds all calls that take one automaton against the models and what comes of them.
func hold(t *testing.T, a api.Auto) {
	t.Helper()
	for _, back := range []bool{false, true} {
		m := testkit.Greatest(a, back)
		wantGreatest(t, a, back, m)
		wantIs(t, a, m, back, true, -1, -1)
		wantClasses(t, m, modelClasses(m))
		for p := range m.Rows {
			for _, q := range m.Rows[p] {
				if !testkit.HasPair(m, p, p) || slices.ContainsFunc(m.Rows[q], func(r int) bool { return !testkit.HasPair(m, p, r) }) {
					t.Fatalf("P13.5: the greatest one of %v: %v", a, m)
				}
			}
		}
		r, e := nfa.Reverse(a)
		if e != api.OK {
			t.Fatal(e)
		}
		wantGreatest(t, r, !back, m)
	}
}

func TestEvery(t *testing.T) {
	for _, c := range []struct{ states, symbols int }{{0, 0}, {0, 2}, {1, 0}, {1, 1}, {1, 2}, {2, 0}, {2, 1}, {2, 2}, {3, 0}, {3, 1}} {
		for a := range testkit.Every(c.states, c.symbols) {
			hold(t, a)
		}
	}
}

// holdRelations holds Is against the model with every relation; those that are simulations make the greatest one together.
func holdRelations(t *testing.T, a api.Auto) {
	t.Helper()
	for _, back := range []bool{false, true} {
		m, _ := greatest(a, back)
		together := relation(make([][]int, a.States)...)
		for bits := range 1 << (a.States * a.States) {
			r := numbered(a.States, bits)
			yes, p, q := modelIs(a, r, back)
			wantIs(t, a, r, back, yes, p, q)
			if yes && !inside(r, m) {
				t.Fatalf("P13.5: %v is a simulation of %v, back %v, and the greatest one is %v", r, a, back, m)
			}
			if yes {
				together = testkit.Relation(a.States, func(p, q int) bool { return testkit.HasPair(together, p, q) || testkit.HasPair(r, p, q) })
			}
		}
		if !testkit.SameMatrix(together, m) {
			t.Fatalf("P13.5: all simulations of %v together, back %v: %v; the greatest one: %v", a, back, together, m)
		}
	}
}

func TestEveryRelation(t *testing.T) {
	for _, c := range []struct{ states, symbols int }{{0, 1}, {1, 0}, {1, 1}, {2, 0}, {2, 1}, {2, 2}} {
		for a := range testkit.Every(c.states, c.symbols) {
			holdRelations(t, a)
		}
	}
	d := testkit.Draw(rand.New(rand.NewPCG(13, 1)).IntN)
	for range 300 {
		holdRelations(t, d.Kin(3, 2))
	}
}

func TestDrawn(t *testing.T) {
	d := testkit.Draw(rand.New(rand.NewPCG(13, 2)).IntN)
	for range 5000 {
		hold(t, d.Kin(d(10), 3))
		hold(t, d.Auto(9, 3))
	}
}

// TestDrawnLarger: some more states, and fans of many heads.
func TestDrawnLarger(t *testing.T) {
	d := testkit.Draw(rand.New(rand.NewPCG(13, 3)).IntN)
	for range 60 {
		hold(t, d.Kin(20+d(8), 2))
		a := d.Kin(70, 1)
		wantGreatest(t, a, false, testkit.Greatest(a, false))
		wantGreatest(t, a, true, testkit.Greatest(a, true))
	}
}

// TestWords: what is below takes no other words, and what is behind is led to by no other words.
func TestWords(t *testing.T) {
	d := testkit.Draw(rand.New(rand.NewPCG(13, 4)).IntN)
	for range 300 {
		a := d.Kin(5, 2)
		forward, _ := simul.Forward(a)
		backward, _ := simul.Backward(a)
		for _, w := range testkit.Words(a.Symbols, 4) {
			var takes, led []bool
			for p := range a.States {
				from, to := a, a
				from.Start, to.Final = []int{p}, []int{p}
				takes, led = append(takes, testkit.Takes(from, w)), append(led, testkit.Takes(to, w))
			}
			for p := range a.States {
				for q := range a.States {
					if testkit.HasPair(forward, p, q) && takes[p] && !takes[q] || testkit.HasPair(backward, p, q) && led[p] && !led[q] {
						t.Fatalf("P13.5: %v: %d, %d, the word %v", a, p, q, w)
					}
				}
			}
		}
	}
}

func TestEveryTwo(t *testing.T) {
	for _, c := range []struct{ first, second, symbols int }{{0, 1, 1}, {1, 0, 1}, {1, 1, 0}, {1, 1, 1}, {1, 2, 0}, {1, 2, 1}, {2, 1, 1}} {
		for a := range testkit.Every(c.first, c.symbols) {
			for b := range testkit.Every(c.second, c.symbols) {
				wantBetween(t, a, b, modelBetween(a, b))
			}
		}
	}
}

func TestDrawnTwo(t *testing.T) {
	d := testkit.Draw(rand.New(rand.NewPCG(13, 5)).IntN)
	for range 2000 {
		a, b := d.Kin(d(7), 2), d.Kin(d(7), 2)
		b.Symbols = max(a.Symbols, b.Symbols)
		a.Symbols = b.Symbols
		wantBetween(t, a, b, modelBetween(a, b))
		wantBetween(t, b, a, modelBetween(b, a))
	}
}

// anyRelation draws a relation: few pairs or many, most of them out of another one if there is one, in no order and with doubles.
func anyRelation(d testkit.Draw, n int, out ...api.Matrix) api.Matrix {
	often, seldom := d(5), d(40)
	m := testkit.Relation(n, func(p, q int) bool {
		if len(out) > 0 && testkit.HasPair(out[0], p, q) {
			return d(5) >= often || d(30) > 0 && often < 3
		}
		return d(40) < seldom && d(20) < n
	})
	if len(out) > 0 && d(2) == 0 {
		m = out[0]
	}
	mixed := api.Matrix{N: n}
	for _, row := range m.Rows {
		mixed.Rows = append(mixed.Rows, mixedUp(d, row))
	}
	return mixed
}

func mixedUp(d testkit.Draw, list []int) []int {
	shuffled := d.Shuffled(api.Auto{Start: list})
	return shuffled.Start
}

func TestDrawnRelations(t *testing.T) {
	d := testkit.Draw(rand.New(rand.NewPCG(13, 6)).IntN)
	told := map[bool]int{}
	for range 3000 {
		a := d.Kin(d(8), 2)
		m := anyRelation(d, a.States)
		wantClasses(t, m, modelClasses(m))
		for _, back := range []bool{false, true} {
			for _, m := range []api.Matrix{m, anyRelation(d, a.States, testkit.Greatest(a, back)), anyRelation(d, a.States, testkit.Greatest(a, !back))} {
				yes, p, q := modelIs(a, m, back)
				wantIs(t, a, m, back, yes, p, q)
				told[yes]++
			}
		}
	}
	if told[true] < 1000 || told[false] < 1000 {
		t.Errorf("P13.3: drawn were %v", told)
	}
}

// TestFirstPair: of several broken pairs the one with the least first state, and of those the one with the least second state, whatever the order in the rows.
func TestFirstPair(t *testing.T) {
	a := testkit.Auto(4, 1, []int{3}, []int{1, 2}, 2, 0, 0)
	wantIs(t, a, relation([]int{3, 1}, []int{3, 2, 0, 1}, []int{1}, []int{0}), false, false, 1, 0)
	wantIs(t, a, relation([]int{3, 1}, []int{3, 2, 3, 1}, []int{1}, []int{0}), false, false, 1, 3)
	wantIs(t, a, relation([]int{3, 1}, []int{2, 2}, []int{3, 1}, []int{0}), false, false, 2, 1)
	wantIs(t, a, relation([]int{2, 1, 2, 0}, nil, nil, []int{2, 0}), true, false, 0, 0)
	wantIs(t, a, relation([]int{2, 1, 2, 0}, nil, []int{2}, []int{2, 0}), true, false, 0, 1)
	wantIs(t, a, relation(nil, nil, nil, []int{3, 2, 0, 3}), true, false, 3, 0)
	wantIs(t, a, relation(nil, nil, nil, []int{3, 3}), true, true, -1, -1)
}

// TestClassesOneWay: both pairs are asked for, nothing follows out of others, and a state needs no pair with itself.
func TestClassesOneWay(t *testing.T) {
	wantClasses(t, relation([]int{1, 2}, []int{2}, []int{0}), []int{0, 1, 0})
	wantClasses(t, relation([]int{1}, []int{2, 0}, []int{1}), []int{0, 0, 1})
	wantClasses(t, relation(nil, nil, nil), []int{0, 1, 2})
	wantClasses(t, relation([]int{2, 1, 2}, []int{2, 2}, []int{1, 0, 1}), []int{0, 1, 0})
	wantClasses(t, relation([]int{2}, []int{2}, []int{2}, []int{2}), []int{0, 1, 2, 3})
}
