package position_test

import (
	"math/rand/v2"
	"slices"
	"testing"

	"wordset/api"
	"wordset/nfa"
	"wordset/position"
	"wordset/regex"
	"wordset/testkit"
)

const least, most = -1 << 63, 1<<63 - 1

// TestMayNotBe: ErrExpr, and nothing else, whatever the other arguments are.
func TestMayNotBe(t *testing.T) {
	node := func(kind api.ExprKind, sym, size int) api.ExprNode {
		return api.ExprNode{Kind: kind, Sym: sym, Size: size}
	}
	of := func(nodes ...api.ExprNode) api.Expr { return api.Expr{Nodes: nodes} }
	leaf := node(api.XSym, 0, 1)
	for _, e := range []api.Expr{
		{}, {Nodes: []api.ExprNode{}}, of(api.ExprNode{}), of(leaf, leaf), testkit.Stars(2000, a), row(1001), letters(1001), {Nodes: make([]api.ExprNode, 1<<20)},
		of(node(0, 0, 1)), of(node(7, 0, 1)), of(node(-1, 0, 1)), of(node(most, 0, 1)), of(node(least, 0, 1)),
		of(node(api.XSym, 0, 0)), of(node(api.XSym, 0, 2)), of(node(api.XSym, 0, -1)), of(node(api.XSym, 0, most)), of(node(api.XSym, 0, least)),
		of(node(api.XSym, -1, 1)), of(node(api.XSym, least, 1)), of(node(api.XNone, 1, 1)), of(node(api.XEmpty, 1, 1)), of(node(api.XEmpty, -1, 1)),
		of(node(api.XStar, 0, 1)), of(node(api.XStar, 1, 2), leaf), of(node(api.XStar, 0, 1), leaf), of(node(api.XStar, 0, 3), leaf), of(node(api.XStar, 0, 3), leaf, leaf),
		of(node(api.XCat, 0, 1)), of(node(api.XCat, 0, 2), leaf), of(node(api.XAlt, 0, 2), leaf), of(node(api.XAlt, 0, 4), leaf, leaf, leaf), of(node(api.XCat, 0, 2), leaf, leaf),
		of(node(api.XCat, 0, 3), node(api.XSym, 0, 2), leaf), of(node(api.XCat, 0, 3), node(api.XSym, 0, most), leaf), of(node(api.XCat, 0, 3), leaf, node(api.XStar, 0, 1)),
	} {
		for _, p := range []int{1, 0, 2, -1, 128, 129, least, most} {
			x := ask(e, p, p)
			for i, code := range x.Codes {
				if code != api.ErrExpr {
					t.Errorf("P10.1: call %d of %.5v: %d", i, e.Nodes, code)
				}
			}
			if !x.Nothing() {
				t.Errorf("P10.1: answers beside an error: %.5v", e.Nodes)
			}
		}
	}
}

// TestErrorsInOrder: an expression that may not be, a number of symbols that may not be, an expression not over so many, a result too large.
func TestErrorsInOrder(t *testing.T) {
	large := star(letters(300))
	bad := testkit.Node(api.XCat, a)
	for _, c := range []struct {
		e       api.Expr
		symbols int
		want    api.Errno
	}{
		{bad, -1, api.ErrExpr}, {bad, 129, api.ErrExpr}, {bad, 0, api.ErrExpr}, {bad, 1, api.ErrExpr},
		{large, -1, api.ErrArg}, {large, 129, api.ErrArg}, {large, least, api.ErrArg}, {large, most, api.ErrArg},
		{large, 0, api.ErrExpr}, {cat(sym(5), large), 5, api.ErrExpr}, {cat(large, sym(128)), 128, api.ErrExpr}, {cat(large, sym(128)), 129, api.ErrArg},
		{large, 1, api.ErrSize}, {large, 128, api.ErrSize}, {cat(sym(5), large), 6, api.ErrSize},
	} {
		wantError(t, c.e, c.symbols, c.want)
	}
}

// TestSymbolNumbers: numbers of symbols, and symbols at and above them; the calls but Build know no bound of symbols.
func TestSymbolNumbers(t *testing.T) {
	for _, symbols := range []int{least, -2, -1, 129, 130, 4096, most} {
		for _, e := range []api.Expr{a, none, empty, sym(200), cat(a, sym(most))} {
			wantError(t, e, symbols, api.ErrArg)
		}
	}
	for _, c := range []struct {
		k, symbols int
		want       api.Errno
	}{{0, 0, api.ErrExpr}, {0, 1, api.OK}, {1, 1, api.ErrExpr}, {0, 128, api.OK}, {127, 128, api.OK}, {128, 128, api.ErrExpr}, {127, 127, api.ErrExpr}, {126, 127, api.OK}, {most, 128, api.ErrExpr}} {
		for _, e := range []api.Expr{sym(c.k), star(cat(sym(c.k), none)), alt(none, cat(star(sym(c.k)), empty))} {
			if c.want != api.OK {
				wantError(t, e, c.symbols, c.want)
				continue
			}
			wantAuto(t, e, c.symbols, autoOf(setsByWords(e), testkit.Means(e, nil), c.symbols))
		}
	}
	wantAuto(t, alt(empty, none), 0, testkit.Auto(1, 0, []int{0}, []int{0}))
	wantAuto(t, cat(empty, none), 128, testkit.Auto(1, 128, []int{0}, nil))
	wantSets(t, cat(sym(most), star(sym(128))), sets{symbols: []int{most, 128}, first: []int{1}, last: []int{1, 2}, follow: [][]int{{2}, {2}}})
}

// TestOrder: edges of one state rise by their symbols ahead of their ends.
func TestOrder(t *testing.T) {
	wantAuto(t, alt(sym(2), alt(b, alt(a, b))), 3, testkit.Auto(5, 3, []int{0}, []int{1, 2, 3, 4}, 0, 0, 3, 0, 1, 2, 0, 1, 4, 0, 2, 1))
	many := sym(0)
	for k := 1; k < 128; k++ {
		many = alt(many, sym(k*37%128))
	}
	e := star(cat(many, many))
	wantAuto(t, e, 128, autoOf(setsByPlaces(e), true, 128))
}

// TestEdges: as many edges as may be, and one more or fewer. A row of n letters beside all else has n edges.
func TestEdges(t *testing.T) {
	pairs := cat(letters(255), letters(256))
	for _, e := range []api.Expr{
		alt(star(letters(255)), row(256)),
		alt(row(256), star(letters(255))),
		alt(pairs, a),
		alt(star(alt(letters(255), cat(star(letters(300)), none))), row(256)),
	} {
		c := built(t, e, 1)
		if len(c.Edges) != 65536 || nfa.Valid(c) != api.OK || !slices.Equal(c.Start, []int{0}) {
			t.Errorf("P10.4: %d edges; they should be 65536", len(c.Edges))
		}
		wantError(t, alt(e, a), 1, api.ErrSize)
		wantError(t, alt(b, e), 2, api.ErrSize)
		if c := built(t, alt(e, none), 1); len(c.Edges) != 65536 {
			t.Errorf("P10.4: %d edges; they should be 65536", len(c.Edges))
		}
		if c := built(t, cat(e, none), 1); len(c.Edges) != 0 || len(c.Final) != 0 || c.States != len(symbolsOf(e))+1 {
			t.Errorf("P10.4: no word: %d states, %d edges", c.States, len(c.Edges))
		}
		if c := built(t, star(cat(none, e)), 1); len(c.Edges) != 0 || !slices.Equal(c.Final, []int{0}) {
			t.Errorf("P10.4: the empty word alone: %d edges", len(c.Edges))
		}
	}
	if c := built(t, pairs, 1); len(c.Edges) != 65535 || c.States != 512 {
		t.Errorf("P10.4: %d states, %d edges; they should be 512, 65535", c.States, len(c.Edges))
	}
}

// TestLargest: as many nodes as may be, nested as deep as they can be. (They have at most 1000 positions, so an automaton never comes near MaxStates.)
func TestLargest(t *testing.T) {
	nulls := testkit.Leaning(api.XCat, 1999)
	for i := range nulls.Nodes[:1200] {
		if nulls.Nodes[i].Kind == api.XSym {
			nulls.Nodes[i].Kind = api.XEmpty
		}
	}
	dead := star(row(1000))
	dead.Nodes[1999].Kind = api.XNone
	deadFirst := star(testkit.Leaning(api.XCat, 1999))
	deadFirst.Nodes[1000].Kind = api.XNone
	for _, e := range []api.Expr{
		testkit.Stars(1999, a), testkit.Stars(1999, none), star(row(1000)), star(testkit.Leaning(api.XCat, 1999)), cat(a, star(row(999))),
		star(letters(1000)), letters(1000), testkit.Leaning(api.XAlt, 1999), testkit.Stars(1000, row(500)), testkit.Stars(1745, letters(128)), testkit.Stars(1491, letters(255)), testkit.Stars(667, letters(667)), nulls, dead, deadFirst, optional(361), optional(362), optional(499),
	} {
		if len(e.Nodes) < 1999 || regex.Valid(e, 1) != api.OK {
			t.Fatalf("%d nodes", len(e.Nodes))
		}
		wantLarge(t, e, setsByPlaces(e))
	}
}

// optional gives, with 2000 nodes, a or the empty word, so many times one behind the other: every position is first and last, and all greater ones stand behind it.
func optional(n int) api.Expr {
	e := testkit.Stars(1999-4*n, empty)
	for range n {
		e = cat(alt(a, empty), e)
	}
	return e
}

// wantLarge holds what is said of an expression's outermost and middle positions, and its automaton, against sets.
func wantLarge(t *testing.T, e api.Expr, want sets) {
	t.Helper()
	got, code := position.Symbols(e)
	wantList(t, "P10.2: Symbols", e, got, code, want.symbols)
	got, code = position.First(e)
	wantList(t, "P10.3: First", e, got, code, want.first)
	got, code = position.Last(e)
	wantList(t, "P10.3: Last", e, got, code, want.last)
	n, edges := len(want.symbols), len(want.first)
	for i, follow := range want.follow {
		edges += len(follow)
		if p := i + 1; p < 3 || p > n-2 || p%64 < 2 {
			got, code = position.Follow(e, p)
			wantList(t, "P10.3: Follow", e, got, code, follow)
		}
	}
	for _, p := range []int{0, n + 1} {
		got, code = position.Follow(e, p)
		wantNoList(t, "P10.3: Follow of no position", got, code, api.ErrArg)
	}
	if edges > 65536 {
		wantError(t, e, 1, api.ErrSize)
		return
	}
	nullable, _ := regex.Nullable(e)
	wantAuto(t, e, 1, autoOf(want, nullable, 1))
}

// TestOdd asks with what may be and what may not: no call panics, and beside an error stands nothing.
func TestOdd(t *testing.T) {
	d := testkit.Draw(rand.New(rand.NewPCG(10, 3)).IntN)
	seen := map[api.Errno]int{}
	for range 20000 {
		e, p, symbols := d.OddExpr(), d.Odd(), d.Odd()
		x := ask(e, p, symbols)
		_, code := regex.Nullable(e)
		follow, build := code, code
		if code == api.OK {
			follow, build = wantedCodes(e, p, symbols)
		}
		if want := []api.Errno{code, code, code, follow, build}; !slices.Equal(x.Codes, want) {
			t.Fatalf("P10.1: %v, %d, %d: %v; it should be %v", e, p, symbols, x.Codes, want)
		}
		seen[build]++
		for i, list := range x.Lists {
			if x.Codes[i] != api.OK && list != nil {
				t.Fatalf("P10.1: an answer beside an error: %v", e)
			}
		}
		if build != api.OK && !testkit.NoAuto(x.Autos[0]) || build == api.OK && nfa.Valid(x.Autos[0]) != api.OK {
			t.Fatalf("P10.4: Build of %v, %d: %v", e, symbols, x.Autos[0])
		}
	}
	for _, code := range []api.Errno{api.OK, api.ErrArg, api.ErrExpr} {
		if seen[code] < 1000 {
			t.Errorf("too few errors %d: %v", code, seen)
		}
	}
}

// wantedCodes says what Follow and Build answer for a small expression that may be.
func wantedCodes(e api.Expr, p, symbols int) (follow, build api.Errno) {
	carried := symbolsOf(e)
	if p < 1 || p > len(carried) {
		follow = api.ErrArg
	}
	switch {
	case symbols < 0 || symbols > 128:
		build = api.ErrArg
	case slices.ContainsFunc(carried, func(k int) bool { return k >= symbols }):
		build = api.ErrExpr
	}
	return follow, build
}

// TestMemory: lists that are answered share no memory with each other, with what was handed in or with what is kept; nothing that was handed in changes.
func TestMemory(t *testing.T) {
	d := testkit.Draw(rand.New(rand.NewPCG(10, 4)).IntN)
	try := func(e api.Expr, p, symbols int) {
		e, same := testkit.RoomyExpr(e)
		if wrong := testkit.Memory(func() testkit.Answers { return ask(e, p, symbols) }, same); wrong != "" {
			t.Fatalf("P10.7: %s: %.30v, %d, %d", wrong, e.Nodes, p, symbols)
		}
	}
	for i := range 1000 {
		e := drawn(d, 1+d(30), i%2 == 0)
		try(e, 1+d(4), 3)
		try(d.OddExpr(), d.Odd(), d.Odd())
	}
	try(star(letters(255)), 255, 1)
	try(a, 1, 1)
	try(testkit.Stars(1999, a), 1, 1)
}
