package reduce_test

import (
	"math/rand/v2"
	"testing"

	"wordset/api"
	"wordset/reduce"
	"wordset/testkit"
	"wordset/trim"
)

func TestExamples(t *testing.T) {
	for _, c := range []struct {
		a, quotient, prune, reduce api.Auto
		class                      []int
	}{
		{testkit.Auto(4, 1, []int{0}, []int{2, 3}, 0, 0, 1, 1, 0, 2, 1, 0, 3), testkit.Auto(3, 1, []int{0}, []int{2}, 0, 0, 1, 1, 0, 2), testkit.Auto(4, 1, []int{0}, []int{2, 3}, 0, 0, 1, 1, 0, 2), testkit.Auto(3, 1, []int{0}, []int{2}, 0, 0, 1, 1, 0, 2), []int{0, 1, 2, 2}},
		{testkit.Auto(3, 1, []int{0}, []int{1, 2}, 0, 0, 1, 0, 0, 2, 2, 0, 2), testkit.Auto(3, 1, []int{0}, []int{1, 2}, 0, 0, 1, 0, 0, 2, 2, 0, 2), testkit.Auto(3, 1, []int{0}, []int{1, 2}, 0, 0, 2, 2, 0, 2), testkit.Auto(2, 1, []int{0}, []int{1}, 0, 0, 1, 1, 0, 1), []int{0, 1, 2}},
		{testkit.Auto(3, 1, []int{0, 1}, []int{2}, 0, 0, 2, 1, 0, 2), testkit.Auto(2, 1, []int{0}, []int{1}, 0, 0, 1), testkit.Auto(3, 1, []int{0}, []int{2}, 0, 0, 2, 1, 0, 2), testkit.Auto(2, 1, []int{0}, []int{1}, 0, 0, 1), []int{0, 0, 1}},
		{testkit.Auto(3, 2, []int{0}, []int{1, 2}, 0, 0, 1, 0, 0, 2, 1, 1, 1), testkit.Auto(3, 2, []int{0}, []int{1, 2}, 0, 0, 1, 0, 0, 2, 1, 1, 1), testkit.Auto(3, 2, []int{0}, []int{1, 2}, 0, 0, 1, 1, 1, 1), testkit.Auto(2, 2, []int{0}, []int{1}, 0, 0, 1, 1, 1, 1), []int{0, 1, 2}},
		{api.Auto{}, api.Auto{}, api.Auto{}, api.Auto{}, nil},
		{testkit.Auto(2, 1, nil, []int{1}, 0, 0, 1), testkit.Auto(2, 1, nil, []int{1}, 0, 0, 1), testkit.Auto(2, 1, nil, []int{1}, 0, 0, 1), testkit.Auto(0, 1, nil, nil), []int{0, 1}},
	} {
		wantMerged(t, c.a, false, c.quotient, c.class)
		wantPrune(t, c.a, c.prune)
		wantReduce(t, c.a, c.reduce)
	}
}

// TestBack: states to which the same words lead, step by step, become one; what leads on from one of them leads on from it.
func TestBack(t *testing.T) {
	a := testkit.Auto(5, 2, []int{4}, []int{0}, 4, 0, 3, 4, 0, 1, 3, 1, 0, 1, 0, 0, 2, 0, 0)
	wantMerged(t, a, true, testkit.Auto(4, 2, []int{3}, []int{0}, 1, 0, 0, 1, 1, 0, 2, 0, 0, 3, 0, 1), []int{0, 1, 2, 1, 3})
	// two starts without an edge to them are back-alike, final or not
	wantMerged(t, testkit.Auto(3, 1, []int{0, 2}, []int{2, 1}), true, testkit.Auto(2, 1, []int{0}, []int{0, 1}), []int{0, 1, 0})
}

// TestNumbers: classes are numbered as their least states rise, wherever their others stand.
func TestNumbers(t *testing.T) {
	// 0 and 5 lead nowhere, 1, 2 and 4 lead to the end, 3 is the end
	a := testkit.Auto(6, 1, []int{5, 2}, []int{3}, 4, 0, 3, 2, 0, 3, 1, 0, 3)
	wantMerged(t, a, false, testkit.Auto(3, 1, []int{0, 1}, []int{2}, 1, 0, 2), []int{0, 1, 1, 2, 1, 0})
	turned := testkit.Auto(6, 1, []int{3}, []int{5, 2}, 3, 0, 4, 3, 0, 2, 3, 0, 1)
	wantMerged(t, turned, true, testkit.Auto(3, 1, []int{2}, []int{0, 1}, 2, 0, 1), []int{0, 1, 1, 2, 1, 0})
}

// TestBrothers: of states that are alike the least one stays; of a row in which each is below the next one the last.
func TestBrothers(t *testing.T) {
	// 1, 2 and 4 are alike and above 3; 5 is beside them
	a := testkit.Auto(6, 2, []int{4, 2, 3, 5}, []int{1, 2, 4, 5}, 0, 0, 4, 0, 0, 3, 0, 0, 2, 0, 1, 3, 0, 1, 4, 1, 0, 1, 2, 0, 2, 4, 0, 4, 5, 1, 5, 0, 1, 5, 3, 0, 1)
	wantPrune(t, a, testkit.Auto(6, 2, []int{2, 5}, []int{1, 2, 4, 5}, 0, 0, 2, 0, 1, 4, 0, 1, 5, 1, 0, 1, 2, 0, 2, 3, 0, 1, 4, 0, 4, 5, 1, 5))
	// 0 is below 1, that below 2, that below 3
	row := testkit.Auto(4, 3, []int{0, 1, 2}, nil, 3, 0, 0, 3, 0, 1, 3, 0, 2, 3, 0, 3, 2, 1, 0, 3, 1, 0, 3, 2, 0)
	row.Edges = append(row.Edges, api.Edge{From: 1, Sym: 2, To: 0}, api.Edge{From: 2, Sym: 2, To: 0})
	wantPrune(t, row, testkit.Auto(4, 3, []int{2}, nil, 1, 2, 0, 2, 1, 0, 2, 2, 0, 3, 0, 3, 3, 1, 0, 3, 2, 0))
}

// TestOneSymbolOneState: a greater brother behind another symbol, or behind another state, takes nothing away.
func TestOneSymbolOneState(t *testing.T) {
	for _, a := range []api.Auto{
		testkit.Auto(3, 2, []int{0}, []int{1, 2}, 0, 0, 1, 0, 1, 2, 2, 0, 2),
		testkit.Auto(4, 2, []int{0}, []int{1, 2}, 0, 0, 1, 2, 0, 2, 3, 0, 2),
	} {
		wantPrune(t, a, a)
	}
}

// hold holds all calls against the models and what comes of them; it tells in how many rounds of Reduce something changed.
func hold(t *testing.T, a api.Auto) int {
	t.Helper()
	for _, back := range []bool{false, true} {
		b, class := modelMerged(a, back)
		wantMerged(t, a, back, b, class)
		wantMerged(t, b, back, b, testkit.Upto(b.States))
		holdWords(t, a, b)
	}
	pruned := modelPrune(a)
	wantPrune(t, a, pruned)
	holdWords(t, a, pruned)
	again, e := reduce.Prune(pruned)
	if e != api.OK || !sameWords(t, pruned, again) {
		t.Fatalf("P14.5: Prune of %v twice: %v, %d", a, again, e)
	}
	b, rounds := modelReduce(a)
	wantReduce(t, a, b)
	holdWords(t, a, b)
	holdSettled(t, b)
	return rounds
}

func holdWords(t *testing.T, a, b api.Auto) {
	t.Helper()
	if !sameWords(t, a, b) || !noMore(b, a) {
		t.Fatalf("P14.4: %v out of %v", b, a)
	}
}

// holdSettled looks whether all steps leave what Reduce made as it is.
func holdSettled(t *testing.T, b api.Auto) {
	t.Helper()
	c, _, e := trim.Trim(b)
	if e != api.OK || !testkit.SameAuto(b, c) {
		t.Fatalf("P14.5: Trim of %v: %v, %d", b, c, e)
	}
	for _, back := range []bool{false, true} {
		wantMerged(t, b, back, b, testkit.Upto(b.States))
	}
	wantPrune(t, b, b)
	wantReduce(t, b, b)
}

func TestEvery(t *testing.T) {
	for _, c := range []struct{ states, symbols int }{{0, 0}, {0, 2}, {1, 0}, {1, 1}, {1, 2}, {2, 0}, {2, 1}, {2, 2}, {3, 0}, {3, 1}} {
		for a := range testkit.Every(c.states, c.symbols) {
			hold(t, a)
		}
	}
}

// TestManyRounds: what one round makes of it lets the next one do more, seven times.
func TestManyRounds(t *testing.T) {
	a := testkit.Auto(12, 1, []int{1, 5, 10}, []int{5, 8, 10},
		1, 0, 5, 1, 0, 6, 1, 0, 7, 1, 0, 8, 1, 0, 11, 2, 0, 1, 2, 0, 5, 3, 0, 8, 3, 0, 9, 4, 0, 6, 4, 0, 9, 5, 0, 8, 6, 0, 2, 6, 0, 3,
		6, 0, 4, 6, 0, 11, 7, 0, 4, 7, 0, 6, 9, 0, 1, 9, 0, 3, 9, 0, 5, 9, 0, 8, 9, 0, 11, 10, 0, 3, 10, 0, 9, 10, 0, 11, 11, 0, 0, 11, 0, 6)
	if rounds := hold(t, a); rounds != 7 {
		t.Errorf("P14.3: something changed in %d rounds", rounds)
	}
	wantReduce(t, a, testkit.Auto(1, 1, []int{0}, []int{0}, 0, 0, 0))
}

func TestDrawn(t *testing.T) {
	d := testkit.Draw(rand.New(rand.NewPCG(14, 1)).IntN)
	rounds := map[int]int{}
	for range 4000 {
		rounds[hold(t, d.Kin(d(9), 2))]++
		rounds[hold(t, d.Auto(8, 3))]++
	}
	for n := range 4 {
		if rounds[n] == 0 {
			t.Errorf("P14.3: nothing that was drawn changes in %d rounds", n)
		}
	}
}

// TestDrawnLarger: some more states.
func TestDrawnLarger(t *testing.T) {
	d := testkit.Draw(rand.New(rand.NewPCG(14, 2)).IntN)
	for range 100 {
		hold(t, d.Kin(14+d(6), 2))
	}
}
