package elim_test

import (
	"fmt"
	"slices"
	"testing"

	"wordset/api"
	"wordset/elim"
	"wordset/minimal"
	"wordset/position"
	"wordset/regex"
	"wordset/subset"
	"wordset/testkit"
)

var (
	none, empty = testkit.Leaf(api.XNone, 0), testkit.Leaf(api.XEmpty, 0)
	letters     = []string{"a", "b"}
)

func sym(k int) api.Expr { return testkit.Leaf(api.XSym, k) }

func is(e api.Expr, kind api.ExprKind) bool { return e.Nodes[0].Kind == kind }

// modelCat, modelAlt and modelStar say the chapter's words.
func modelCat(x, y api.Expr) api.Expr {
	switch {
	case is(x, api.XNone) || is(y, api.XNone):
		return none
	case is(x, api.XEmpty):
		return y
	case is(y, api.XEmpty):
		return x
	}
	return testkit.Node(api.XCat, x, y)
}

func modelAlt(x, y api.Expr) api.Expr {
	switch {
	case is(x, api.XNone):
		return y
	case is(y, api.XNone), testkit.SameExpr(x, y):
		return x
	}
	return testkit.Node(api.XAlt, x, y)
}

func modelStar(x api.Expr) api.Expr {
	switch {
	case is(x, api.XNone), is(x, api.XEmpty):
		return empty
	case is(x, api.XStar):
		return x
	}
	return testkit.Node(api.XStar, x)
}

// model is the grid as the chapter says it: every place has an expression, XNone too.
type model struct {
	at   [][]api.Expr
	out  []bool
	most int // the nodes of the largest expression that ever stood there
}

func newModel(a api.Auto) *model {
	n := a.States
	m := &model{out: make([]bool, n+2)}
	for range n + 2 {
		m.at = append(m.at, slices.Repeat([]api.Expr{none}, n+2))
	}
	for _, s := range a.Start {
		m.put(0, s+1, empty)
	}
	for _, s := range a.Final {
		m.put(s+1, n+1, empty)
	}
	for s := range n {
		for t := range n {
			if l := symbolsBetween(a, s, t); len(l) > 0 {
				m.put(s+1, t+1, anyOf(l))
			}
		}
	}
	return m
}

// symbolsBetween gives the symbols of the edges from a state to another one, each once, rising.
func symbolsBetween(a api.Auto, s, t int) []int {
	var l []int
	for _, e := range a.Edges {
		if e.From == s && e.To == t {
			l = append(l, e.Sym)
		}
	}
	slices.Sort(l)
	return slices.Compact(l)
}

func anyOf(symbols []int) api.Expr {
	if len(symbols) == 1 {
		return sym(symbols[0])
	}
	return testkit.Node(api.XAlt, sym(symbols[0]), anyOf(symbols[1:]))
}

func (m *model) put(x, y int, e api.Expr) {
	m.most = max(m.most, len(e.Nodes))
	m.at[x][y] = e
}

// takeOut reads all ahead of writing.
func (m *model) takeOut(p int) {
	before := make([][]api.Expr, len(m.at))
	for x := range m.at {
		before[x] = slices.Clone(m.at[x])
	}
	m.out[p] = true
	for x := range m.at {
		for y := range m.at {
			if m.out[x] || m.out[y] || is(before[x][p], api.XNone) && is(before[p][y], api.XNone) {
				continue
			}
			m.put(x, y, modelAlt(before[x][y], modelCat(before[x][p], modelCat(modelStar(before[p][p]), before[p][y]))))
		}
	}
}

// modelOrder says P21.1 for an order that may be.
func modelOrder(a api.Auto, order []int) (api.Expr, api.Errno) {
	m := newModel(a)
	for _, s := range order {
		if m.most > api.MaxExpr {
			return api.Expr{}, api.ErrSize
		}
		m.takeOut(s + 1)
	}
	if m.most > api.MaxExpr {
		return api.Expr{}, api.ErrSize
	}
	return m.at[0][a.States+1], api.OK
}

// downward gives the states from the greatest down to 0.
func downward(states int) []int {
	order := testkit.Upto(states)
	slices.Reverse(order)
	return order
}

// everyOrder gives all orders of the states below a bound.
func everyOrder(states int) [][]int {
	if states == 0 {
		return [][]int{nil}
	}
	var all [][]int
	for _, fewer := range everyOrder(states - 1) {
		for i := range states {
			all = append(all, slices.Insert(slices.Clone(fewer), i, states-1))
		}
	}
	return all
}

func drawOrder(d testkit.Draw, states int) []int {
	order := testkit.Upto(states)
	for i := range order {
		j := d(i + 1)
		order[i], order[j] = order[j], order[i]
	}
	return order
}

// told writes what is not too long, and the beginning of what is.
func told(x any) string { return fmt.Sprintf("%.300s", fmt.Sprint(x)) }

// wantOrder holds Order against what should come of it.
func wantOrder(t *testing.T, a api.Auto, order []int, want api.Expr, code api.Errno) {
	t.Helper()
	if e, got := elim.Order(a, order); got != code || !testkit.SameExpr(e, want) {
		t.Fatalf("P21.1: Order of %s by %s: %s, %d; it should be %s, %d", told(a), told(order), told(e), got, told(want), code)
	}
}

func wantExpress(t *testing.T, a api.Auto, want api.Expr, code api.Errno) {
	t.Helper()
	if e, got := elim.Express(a); got != code || !testkit.SameExpr(e, want) {
		t.Fatalf("P21.2: Express of %s: %s, %d; it should be %s, %d", told(a), told(e), got, told(want), code)
	}
}

// wantNodes looks at the code and the number of nodes, which is all that is asked of large ones.
func wantNodes(t *testing.T, what string, a api.Auto, order []int, nodes int, code api.Errno) {
	t.Helper()
	e, got := elim.Order(a, order)
	if got != code || len(e.Nodes) != nodes {
		t.Errorf("P21.1: %s: %d nodes, %d; it should be %d, %d", what, len(e.Nodes), got, nodes, code)
	}
	if got == api.OK && regex.Valid(e, a.Symbols) != api.OK {
		t.Errorf("P21.4: %s: it may not be", what)
	}
}

// holdWords holds an expression against the automaton's words, however long.
func holdWords(t *testing.T, a api.Auto, e api.Expr) {
	t.Helper()
	if regex.Valid(e, a.Symbols) != api.OK {
		t.Fatalf("P21.4: of %v: %v may not be", a, e)
	}
	b, code := position.Build(e, a.Symbols)
	if code != api.OK {
		t.Fatalf("P21.3: of %v: %v, %d", a, e, code)
	}
	c, _, first := subset.Make(a, 0)
	d, _, second := subset.Make(b, 0)
	same, word, third := minimal.Equal(c, d)
	if first != api.OK || second != api.OK || third != api.OK || !same {
		t.Fatalf("P21.3: of %v: %v: they differ at %v", a, e, word)
	}
}

// hold holds an order's answer against the model and what comes of it; it tells what was answered.
func hold(t *testing.T, a api.Auto, order []int) (api.Expr, api.Errno) {
	t.Helper()
	want, code := modelOrder(a, order)
	wantOrder(t, a, order, want, code)
	if slices.Equal(order, downward(a.States)) {
		wantExpress(t, a, want, code)
	}
	return want, code
}

// ask asks both calls.
func ask(a api.Auto, order []int) testkit.Answers {
	var x testkit.Answers
	x.Expr(elim.Express(a))
	x.Expr(elim.Order(a, order))
	return x
}
