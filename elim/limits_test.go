package elim_test

import (
	"math/rand/v2"
	"slices"
	"testing"

	"wordset/api"
	"wordset/nfa"
	"wordset/regex"
	"wordset/testkit"
)

const lowest, greatest = -1 << 63, 1<<63 - 1

// TestMayNotBe: ErrAuto, whatever the order is.
func TestMayNotBe(t *testing.T) {
	good := testkit.Auto(3, 2, []int{2, 1}, []int{0, 0}, 0, 1, 1, 2, 0, 2)
	for _, bad := range append(testkit.Spoilt(good), api.Auto{Start: []int{0}}, api.Auto{Final: []int{0}}, testkit.Auto(1, 1, nil, nil, 0, 0, 1), testkit.Auto(1, 0, nil, nil, 0, 0, 0)) {
		for _, order := range [][]int{nil, {0}, {0, 1, 2}, {2, 2}, {-1}} {
			if x := ask(bad, order); !slices.Equal(x.Codes, []api.Errno{api.ErrAuto, api.ErrAuto}) || !x.Nothing() {
				t.Errorf("P21.5: %d states, %d symbols, %d edges, by %v: %v", bad.States, bad.Symbols, len(bad.Edges), order, x.Codes)
			}
		}
	}
}

// TestNoOrder: ErrArg, if not each state is told once, and no other number; also where something would be too large.
func TestNoOrder(t *testing.T) {
	for _, order := range [][]int{{0}, {0, 1}, {0, 1, 1}, {0, 0, 0}, {0, 1, 3}, {-1, 0, 1}, {2, 1, lowest}, {2, 1, greatest}, {0, 1, 2, 0}, {0, 1, 2, 3}, {0, 1, 2, 0, 1, 2}, make([]int, 1<<20)} {
		wantOrder(t, testkit.Auto(3, 2, []int{0}, []int{1}, 0, 0, 1), order, api.Expr{}, api.ErrArg)
	}
	none := testkit.Auto(0, 1, nil, nil)
	wantOrder(t, none, []int{0}, api.Expr{}, api.ErrArg)
	wantOrder(t, none, []int{-1}, api.Expr{}, api.ErrArg)
	wantOrder(t, none, []int{}, testkit.Leaf(api.XNone, 0), api.OK)
	long := testkit.Chain(1002)
	wantOrder(t, long, testkit.Upto(1001), api.Expr{}, api.ErrArg)
	wantOrder(t, long, append(testkit.Upto(1001), 0), api.Expr{}, api.ErrArg)
	wantOrder(t, long, testkit.Upto(1002), api.Expr{}, api.ErrSize)
}

// looped is a chain with a loop by symbols that all lie above the chain's.
func looped(states, at, symbols int) api.Auto {
	a := testkit.Chain(states)
	a.Symbols += symbols
	for k := range symbols {
		a.Edges = append(a.Edges, api.Edge{From: at, Sym: 1 + k, To: at})
	}
	return a
}

// TestSizes: as many nodes as may be, and the next numbers that there can be, by several orders. A chain has two nodes a symbol but one; a loop in it three more, and two for each symbol but its first.
func TestSizes(t *testing.T) {
	d := testkit.Draw(rand.New(rand.NewPCG(21, 3)).IntN)
	for _, c := range []struct {
		a     api.Auto
		nodes int
	}{
		{testkit.Chain(1001), 1999}, {testkit.Chain(1002), 2001},
		{looped(1000, 0, 1), 2000}, {looped(1000, 500, 1), 2000}, {looped(1000, 999, 1), 2000}, {looped(999, 500, 2), 2000}, {looped(900, 3, 101), 2000},
		{looped(1000, 7, 2), 2002}, {looped(1001, 0, 1), 2002}, {looped(900, 3, 102), 2002},
	} {
		nodes, code := c.nodes, api.OK
		if c.nodes > 2000 {
			nodes, code = 0, api.ErrSize
		}
		for _, order := range [][]int{testkit.Upto(c.a.States), downward(c.a.States), drawOrder(d, c.a.States), drawOrder(d, c.a.States)} {
			wantNodes(t, "a chain", c.a, order, nodes, code)
		}
	}
}

// inner gives the states of a chain, those between its ends first.
func inner(states int) []int { return append(testkit.Upto(states)[1:states-1], 0, states-1) }

// TestCountsForNothing: what stands between two states is asked too where no path of a word leads through it; but what stands nowhere is not asked.
func TestCountsForNothing(t *testing.T) {
	for _, c := range []struct {
		what         string
		states       int
		start, final []int
		order        func(states int) []int
		code         api.Errno
	}{
		{"no start, no end, inner ones first", 1002, nil, nil, inner, api.ErrSize},
		{"no start, no end, inner ones first", 1001, nil, nil, inner, api.OK},
		{"no start, no end, forward", 1002, nil, nil, testkit.Upto, api.OK},
		{"no start, no end, backward", 1002, nil, nil, downward, api.OK},
		{"no end, forward", 1003, []int{0}, nil, testkit.Upto, api.ErrSize},
		{"no end, forward", 1002, []int{0}, nil, testkit.Upto, api.ErrSize},
		{"no end, forward", 1001, []int{0}, nil, testkit.Upto, api.OK},
		{"no end, backward", 4096, []int{0}, nil, downward, api.OK},
		{"no start, backward", 1002, nil, []int{1001}, downward, api.ErrSize},
		{"no start, backward", 1001, nil, []int{1000}, downward, api.OK},
		{"no start, forward", 4096, nil, []int{4095}, testkit.Upto, api.OK},
		{"another way round", 1002, []int{1001}, []int{0}, testkit.Upto, api.OK},
		{"another way round", 1002, []int{1001}, []int{0}, inner, api.ErrSize},
	} {
		a := testkit.Chain(c.states)
		a.Start, a.Final = c.start, c.final
		nodes := 1
		if c.code != api.OK {
			nodes = 0
		}
		wantNodes(t, c.what, a, c.order(c.states), nodes, c.code)
	}
}

// TestRings: a ring of as many nodes as may be is no error by itself; its star is too large, but only where it stands in a way from somewhere to somewhere.
func TestRings(t *testing.T) {
	for _, c := range []struct {
		states  int
		looped  bool
		nodes   int
		wrong   bool
		through bool
	}{
		{1000, false, 1999, false, false}, {1000, false, 2000, false, true},
		{999, true, 2000, false, false}, {999, true, 2001, true, true},
		{1001, false, 2001, true, false}, {1001, false, 2001, true, true},
	} {
		for ends := range 4 {
			if c.through != (ends == 3) {
				continue
			}
			a := testkit.Circle(c.states, nil)
			if c.looped {
				a.Edges = append(a.Edges, api.Edge{From: 5, To: 5})
			}
			a.Start, a.Final = a.Start[:ends&1], []int{0}[:ends>>1]
			nodes, code := 1, api.OK
			switch {
			case c.wrong:
				nodes, code = 0, api.ErrSize
			case c.through:
				nodes = c.nodes
			}
			wantNodes(t, "a ring", a, downward(c.states), nodes, code)
		}
	}
}

// TestTwoAlike: two ways with the same expression are one, as large as they may be; if they differ in their last symbol, or are put together the other way round, they are two.
func TestTwoAlike(t *testing.T) {
	a := testkit.Chain(1001)
	a.States, a.Symbols = 2000, 2
	for p := 1000; p < 1999; p++ {
		e := api.Edge{From: p, To: p + 1}
		if p == 1000 {
			e.From = 0
		}
		a.Edges = append(a.Edges, e)
	}
	a.Edges = append(a.Edges, api.Edge{From: 1999, To: 1000})
	wantNodes(t, "two chains", a, downward(2000), 1999, api.OK)
	other := a
	other.Edges = slices.Clone(a.Edges)
	other.Edges[len(a.Edges)-1].Sym = 1
	wantNodes(t, "two chains with other ends", other, downward(2000), 0, api.ErrSize)
	order := slices.Concat(downward(1000)[:999], testkit.Upto(2000)[1001:], []int{1000, 0})
	wantNodes(t, "two chains, another way round", a, order, 0, api.ErrSize)
}

// TestBesideEachOther: so many stars beside one another, three nodes each but one.
func TestBesideEachOther(t *testing.T) {
	stars := func(n int) api.Auto {
		a := api.Auto{States: n, Symbols: 128, Start: testkit.Upto(n), Final: testkit.Upto(n)}
		for p := range n {
			a.Edges = append(a.Edges, api.Edge{From: p, Sym: p % 128, To: p})
		}
		return a
	}
	wantNodes(t, "stars", stars(667), downward(667), 2000, api.OK)
	wantNodes(t, "stars", stars(667), testkit.Upto(667), 2000, api.OK)
	wantNodes(t, "stars", stars(668), downward(668), 0, api.ErrSize)
	wantNodes(t, "stars", stars(4096), downward(4096), 0, api.ErrSize)
}

// TestNested: a state's loop leads over the next state.
func TestNested(t *testing.T) {
	a := api.Auto{States: 401, Symbols: 1, Start: []int{0}, Final: []int{0}}
	want := testkit.Node(api.XCat, sym(0), sym(0))
	for p := range 400 {
		a.Edges = append(a.Edges, api.Edge{From: p, To: p + 1}, api.Edge{From: p + 1, To: p})
		if p > 0 {
			want = testkit.Node(api.XCat, sym(0), testkit.Node(api.XCat, testkit.Node(api.XStar, want), sym(0)))
		}
	}
	want = testkit.Node(api.XStar, want)
	wantExpress(t, a, want, api.OK)
	if len(want.Nodes) != 1999 {
		t.Errorf("%d nodes", len(want.Nodes))
	}
	a.States++
	a.Edges = append(a.Edges, api.Edge{From: 400, To: 401}, api.Edge{From: 401, To: 400})
	wantExpress(t, a, api.Expr{}, api.ErrSize)
}

// TestLargest: as many states, symbols and edges as may be, and as many doubles.
func TestLargest(t *testing.T) {
	states := testkit.Upto(4096)
	for _, c := range []struct {
		a    api.Auto
		want api.Expr
		code api.Errno
	}{
		{api.Auto{States: 4096}, none, api.OK},
		{api.Auto{States: 4096, Symbols: 128, Start: states, Final: states}, empty, api.OK},
		{api.Auto{States: 4096, Symbols: 1, Start: []int{4095, 0}, Final: slices.Repeat([]int{4095}, 1<<20), Edges: slices.Repeat([]api.Edge{{From: 4095, To: 4095}}, 65536)}, testkit.Node(api.XStar, sym(0)), api.OK},
		{loops(512), testkit.Node(api.XStar, anyOf(testkit.Upto(128))), api.OK},
		{testkit.Crowd(256, 65536), api.Expr{}, api.ErrSize},
		{testkit.Chain(4096), api.Expr{}, api.ErrSize},
	} {
		wantExpress(t, c.a, c.want, c.code)
		wantOrder(t, c.a, downward(c.a.States), c.want, c.code)
	}
}

// loops has of each symbol a loop at each state.
func loops(states int) api.Auto {
	a := api.Auto{States: states, Symbols: 128, Start: testkit.Upto(states), Final: testkit.Upto(states)}
	for p := range states {
		for k := range 128 {
			a.Edges = append(a.Edges, api.Edge{From: p, Sym: k, To: p})
		}
	}
	return a
}

// TestHub: all ways lead through one state, from each of many to each of many.
func TestHub(t *testing.T) {
	a := api.Auto{States: 601, Symbols: 2, Start: []int{7}, Final: []int{599}}
	for p := range 300 {
		a.Edges = append(a.Edges, api.Edge{From: p, To: 600}, api.Edge{From: 600, Sym: 1, To: 300 + p})
	}
	wantExpress(t, a, testkit.Node(api.XCat, sym(0), sym(1)), api.OK)
}

// odd draws what may be and what may not, and an order likewise.
func odd(d testkit.Draw) (api.Auto, []int) {
	a := d.Auto(d(5), 1+d(2))
	if d(3) == 0 {
		a = d.OddAuto()
	}
	switch {
	case d(3) == 0:
		return a, d.OddList()
	case a.States < 0 || a.States > api.MaxStates:
		return a, nil
	}
	return a, drawOrder(d, a.States)
}

// TestOdd: no call panics, and beside an error stands nothing.
func TestOdd(t *testing.T) {
	d := testkit.Draw(rand.New(rand.NewPCG(21, 4)).IntN)
	seen := map[api.Errno]int{}
	for range 5000 {
		a, order := odd(d)
		x := ask(a, order)
		if valid := nfa.Valid(a); x.Codes[0] != valid || valid != api.OK && x.Codes[1] != valid {
			t.Fatalf("P21.5: %v by %v: %v", a, order, x.Codes)
		}
		for i, e := range x.Exprs {
			if (x.Codes[i] == api.OK) != (regex.Valid(e, a.Symbols) == api.OK) || x.Codes[i] != api.OK && e.Nodes != nil {
				t.Fatalf("P21.5: %v by %v: %v, %v", a, order, x.Codes, e)
			}
		}
		seen[x.Codes[1]]++
	}
	if seen[api.OK] < 500 || seen[api.ErrAuto] < 500 || seen[api.ErrArg] < 500 {
		t.Errorf("P21.5: drawn were %v", seen)
	}
}

func TestMemory(t *testing.T) {
	d := testkit.Draw(rand.New(rand.NewPCG(21, 5)).IntN)
	for range 1000 {
		a, order := odd(d)
		a, sameAuto := testkit.RoomyAuto(a)
		order, sameOrder := testkit.Roomy(order, -1)
		wrong := testkit.Memory(
			func() testkit.Answers { return ask(a, order) },
			func() bool { return sameAuto() && sameOrder() },
		)
		if wrong != "" {
			t.Fatalf("P21.5: %s: %v by %v", wrong, a, order)
		}
	}
}
