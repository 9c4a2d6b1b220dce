package position_test

import (
	"slices"
	"testing"

	"wordset/api"
	"wordset/position"
	"wordset/testkit"
)

var (
	none, empty = testkit.Leaf(api.XNone, 0), testkit.Leaf(api.XEmpty, 0)
	a, b        = sym(0), sym(1)
)

func sym(k int) api.Expr         { return testkit.Leaf(api.XSym, k) }
func star(x api.Expr) api.Expr   { return testkit.Node(api.XStar, x) }
func cat(x, y api.Expr) api.Expr { return testkit.Node(api.XCat, x, y) }
func alt(x, y api.Expr) api.Expr { return testkit.Node(api.XAlt, x, y) }

// letters gives an XAlt of so many symbols 0.
func letters(n int) api.Expr { return testkit.Long(api.XAlt, 2*n-1) }

// row gives an XCat of so many symbols 0.
func row(n int) api.Expr { return testkit.Long(api.XCat, 2*n-1) }

// sets is what the chapter says of an expression's positions.
type sets struct {
	symbols, first, last []int
	follow               [][]int // of the positions 1, 2, ..
}

// symbolsOf gives the symbols of the positions.
func symbolsOf(e api.Expr) []int {
	var list []int
	for _, n := range e.Nodes {
		if n.Kind == api.XSym {
			list = append(list, n.Sym)
		}
	}
	return list
}

// marked gives the marked expression.
func marked(e api.Expr) api.Expr {
	e.Nodes = slices.Clone(e.Nodes)
	p := 0
	for i := range e.Nodes {
		if e.Nodes[i].Kind == api.XSym {
			p++
			e.Nodes[i].Sym = p
		}
	}
	return e
}

// language is a set of words; a byte is a symbol.
type language map[string]bool

// wordsOf gives an expression's words up to a length, by the definition.
func wordsOf(e api.Expr, length int) language {
	words := language{}
	var of []language
	for _, kid := range testkit.Kids(e) {
		of = append(of, wordsOf(kid, length))
	}
	put := func(word string) bool {
		if len(word) > length || words[word] {
			return false
		}
		words[word] = true
		return true
	}
	switch head := e.Nodes[0]; head.Kind {
	case api.XEmpty:
		put("")
	case api.XSym:
		put(string([]byte{byte(head.Sym)}))
	case api.XAlt:
		for _, l := range of {
			for w := range l {
				put(w)
			}
		}
	case api.XCat:
		for x := range of[0] {
			for y := range of[1] {
				put(x + y)
			}
		}
	case api.XStar:
		put("")
		for fresh := []string{""}; len(fresh) > 0; fresh = fresh[1:] {
			for piece := range of[0] {
				if put(fresh[0] + piece) {
					fresh = append(fresh, fresh[0]+piece)
				}
			}
		}
	}
	return words
}

// setsByWords reads the sets off the words of the marked expression. What stands anywhere in a word stands in one in which no position comes back, neither ahead of it nor behind it: so twice as many symbols as positions are enough.
func setsByWords(e api.Expr) sets {
	s := sets{symbols: symbolsOf(e)}
	n := len(s.symbols)
	first, last := make([]bool, n+1), make([]bool, n+1)
	behind := make([][]bool, n+1)
	for p := range behind {
		behind[p] = make([]bool, n+1)
	}
	for w := range wordsOf(marked(e), 2*n) {
		for i := range w {
			if i == 0 {
				first[w[i]] = true
			} else {
				behind[w[i-1]][w[i]] = true
			}
			if i == len(w)-1 {
				last[w[i]] = true
			}
		}
	}
	s.first, s.last = numbers(first), numbers(last)
	for p := 1; p <= n; p++ {
		s.follow = append(s.follow, numbers(behind[p]))
	}
	return s
}

// numbers gives those at which a list says yes.
func numbers(list []bool) []int {
	var out []int
	for i, yes := range list {
		if yes {
			out = append(out, i)
		}
	}
	return out
}

// graph has two places a node, 2n ahead of it and 2n+1 behind it, and steps between them: those on which nothing is read, and one over each symbol.
type graph struct {
	silent, reading, back [][]int
	at                    []int // by position: its node
}

func graphOf(e api.Expr) graph {
	size := 2 * len(e.Nodes)
	g := graph{silent: make([][]int, size), reading: make([][]int, size), back: make([][]int, size), at: []int{-1}}
	step := func(from, to int) {
		g.silent[from] = append(g.silent[from], to)
		g.reading[from] = append(g.reading[from], to)
		g.back[to] = append(g.back[to], from)
	}
	for n, head := range e.Nodes {
		ahead, behind := 2*n, 2*n+1
		switch head.Kind {
		case api.XEmpty:
			step(ahead, behind)
		case api.XSym:
			g.at = append(g.at, n)
			g.reading[ahead] = append(g.reading[ahead], behind)
			g.back[behind] = append(g.back[behind], ahead)
		case api.XStar:
			step(ahead, behind)
			step(ahead, ahead+2)
			step(behind+2, ahead)
		case api.XCat, api.XAlt:
			x, y := n+1, n+1+e.Nodes[n+1].Size
			step(ahead, 2*x)
			step(2*y+1, behind)
			if head.Kind == api.XCat {
				step(2*x+1, 2*y)
			} else {
				step(ahead, 2*y)
				step(2*x+1, behind)
			}
		}
	}
	return g
}

// closure tells which places steps lead to.
func closure(from int, steps [][]int) []bool {
	met := make([]bool, len(steps))
	met[from] = true
	for fresh := []int{from}; len(fresh) > 0; fresh = fresh[1:] {
		for _, to := range steps[fresh[0]] {
			if !met[to] {
				met[to] = true
				fresh = append(fresh, to)
			}
		}
	}
	return met
}

// setsByPlaces goes through the places of an expression: it can do so with large ones.
func setsByPlaces(e api.Expr) sets {
	g := graphOf(e)
	s := sets{symbols: symbolsOf(e)}
	reached, ending, begin := closure(0, g.reading), closure(1, g.back), closure(0, g.silent)
	for p := 1; p < len(g.at); p++ {
		ahead, behind := 2*g.at[p], 2*g.at[p]+1
		if begin[ahead] && ending[behind] {
			s.first = append(s.first, p)
		}
		var follow []int
		if reached[ahead] {
			near := closure(behind, g.silent)
			if near[1] {
				s.last = append(s.last, p)
			}
			for q := 1; q < len(g.at); q++ {
				if near[2*g.at[q]] && ending[2*g.at[q]+1] {
					follow = append(follow, q)
				}
			}
		}
		s.follow = append(s.follow, follow)
	}
	return s
}

// autoOf says P10.4 of sets.
func autoOf(s sets, nullable bool, symbols int) api.Auto {
	c := api.Auto{States: len(s.symbols) + 1, Symbols: symbols, Start: []int{0}}
	if nullable {
		c.Final = []int{0}
	}
	c.Final = append(c.Final, s.last...)
	for p, behind := range slices.Concat([][]int{s.first}, s.follow) {
		for k := range symbols {
			for _, q := range behind {
				if s.symbols[q-1] == k {
					c.Edges = append(c.Edges, api.Edge{From: p, Sym: k, To: q})
				}
			}
		}
	}
	return c
}

func wantList(t *testing.T, call string, e api.Expr, got []int, code api.Errno, want []int) {
	t.Helper()
	if code != api.OK || !slices.Equal(got, want) {
		t.Fatalf("%s of %.30v: %v, %d; it should be %v", call, e.Nodes, got, code, want)
	}
}

func wantNoList(t *testing.T, call string, got []int, code, want api.Errno) {
	t.Helper()
	if code != want || got != nil {
		t.Errorf("%s: %v, %d; it should be nothing, %d", call, got, code, want)
	}
}

// wantSets holds the four calls that give lists against sets.
func wantSets(t *testing.T, e api.Expr, want sets) {
	t.Helper()
	got, code := position.Symbols(e)
	wantList(t, "P10.2: Symbols", e, got, code, want.symbols)
	got, code = position.First(e)
	wantList(t, "P10.3: First", e, got, code, want.first)
	got, code = position.Last(e)
	wantList(t, "P10.3: Last", e, got, code, want.last)
	for i, follow := range want.follow {
		got, code = position.Follow(e, i+1)
		wantList(t, "P10.3: Follow", e, got, code, follow)
	}
	for _, p := range []int{0, -1, len(want.symbols) + 1, -1 << 63, 1<<63 - 1} {
		got, code = position.Follow(e, p)
		wantNoList(t, "P10.3: Follow of no position", got, code, api.ErrArg)
	}
}

func wantAuto(t *testing.T, e api.Expr, symbols int, want api.Auto) {
	t.Helper()
	if got, code := position.Build(e, symbols); code != api.OK || !testkit.SameAuto(got, want) {
		t.Fatalf("P10.4: Build of %.30v: %v, %d; it should be %v", e.Nodes, got, code, want)
	}
}

func wantError(t *testing.T, e api.Expr, symbols int, want api.Errno) {
	t.Helper()
	if got, code := position.Build(e, symbols); code != want || !testkit.NoAuto(got) {
		t.Errorf("P10.4: Build of %d nodes, %d symbols: %d states, %d edges, %d; it should be nothing, %d", len(e.Nodes), symbols, got.States, len(got.Edges), code, want)
	}
}

// built gives the automaton of an expression that must have one.
func built(t *testing.T, e api.Expr, symbols int) api.Auto {
	t.Helper()
	c, code := position.Build(e, symbols)
	if code != api.OK {
		t.Fatalf("P10.4: Build of %d nodes: %d", len(e.Nodes), code)
	}
	return c
}

// ask asks all calls.
func ask(e api.Expr, p, symbols int) testkit.Answers {
	var x testkit.Answers
	x.List(position.Symbols(e))
	x.List(position.First(e))
	x.List(position.Last(e))
	x.List(position.Follow(e, p))
	x.Auto(position.Build(e, symbols))
	return x
}
