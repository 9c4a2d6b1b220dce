package elim_test

import (
	"math/rand/v2"
	"slices"
	"testing"

	"wordset/api"
	"wordset/elim"
	"wordset/nfa"
	"wordset/regex"
	"wordset/testkit"
)

func TestExamples(t *testing.T) {
	three := testkit.Auto(2, 2, []int{0}, []int{1}, 0, 0, 0, 0, 1, 1, 1, 0, 1)
	for _, c := range []struct {
		a     api.Auto
		order []int
		want  string
	}{
		{testkit.Auto(1, 2, []int{0}, []int{0}, 0, 0, 0), []int{0}, "a*"},
		{testkit.Auto(2, 2, []int{0}, []int{1}, 0, 0, 1), []int{1, 0}, "a"},
		{three, []int{1, 0}, "a* b a*"},
		{three, []int{0, 1}, "(a* b) a*"},
		{testkit.Auto(1, 2, []int{0}, []int{0}), []int{0}, "%"},
		{testkit.Auto(0, 2, nil, nil), nil, "~"},
		{testkit.Auto(2, 2, []int{0, 1}, []int{0}, 0, 0, 0, 1, 0, 0, 0, 1, 0), []int{1, 0}, "(% | a) (a | b)*"},
	} {
		e, code := elim.Order(c.a, c.order)
		text, _ := regex.Print(e, letters)
		if code != api.OK || text != c.want {
			t.Errorf("P21.1: Order of %v by %v: %q, %d; it should be %q", c.a, c.order, text, code, c.want)
		}
		if slices.Equal(c.order, downward(c.a.States)) {
			wantExpress(t, c.a, e, api.OK)
		}
	}
	for _, order := range [][]int{{0}, {0, 0}, {0, 2}} {
		wantOrder(t, three, order, api.Expr{}, api.ErrArg)
	}
}

// TestByHand: what stands beside something comes behind it; what is the same stands once; what begins alike is not put together.
func TestByHand(t *testing.T) {
	for _, c := range []struct {
		a     api.Auto
		order []int
		want  string
	}{
		{testkit.Auto(4, 2, []int{0}, []int{3}, 0, 0, 1, 1, 1, 3, 0, 0, 2, 2, 1, 3), []int{1, 2, 0, 3}, "a b"},
		{testkit.Auto(4, 2, []int{0}, []int{3}, 0, 0, 1, 1, 1, 3, 0, 1, 2, 2, 1, 3), []int{1, 2, 0, 3}, "a b | b b"},
		{testkit.Auto(4, 2, []int{0}, []int{3}, 0, 0, 1, 1, 1, 3, 0, 1, 2, 2, 1, 3), []int{2, 1, 0, 3}, "b b | a b"},
		{testkit.Auto(4, 2, []int{0}, []int{3}, 0, 1, 3, 0, 0, 1, 1, 1, 3, 0, 0, 2, 2, 1, 3), []int{1, 2, 0, 3}, "(b | a b) | a b"},
		{testkit.Auto(3, 2, []int{0}, []int{2}, 0, 0, 1, 1, 0, 2, 2, 1, 0), []int{2, 1, 0}, "(a a b)* a a"},
		{testkit.Auto(3, 2, []int{0}, []int{2}, 0, 0, 1, 1, 0, 2, 2, 1, 0), []int{0, 1, 2}, "(a a) ((b a) a)*"},
		{testkit.Auto(2, 2, []int{0}, []int{0, 1}, 0, 0, 0, 0, 1, 1, 1, 1, 1), []int{1, 0}, "a* (% | b b*)"},
		{testkit.Auto(2, 2, []int{0, 1}, []int{1}, 0, 0, 1), []int{1, 0}, "% | a"},
		{testkit.Auto(2, 2, []int{0, 1}, []int{1}, 0, 0, 1), []int{0, 1}, "% | a"},
		{testkit.Auto(2, 2, []int{0, 1}, []int{0, 1}), []int{0, 1}, "%"},
		{testkit.Auto(2, 2, []int{0, 1}, []int{0, 1}, 0, 1, 0, 1, 1, 1), []int{0, 1}, "b*"},
		{testkit.Auto(2, 2, []int{0, 1}, []int{0, 1}, 0, 0, 0, 1, 1, 1), []int{0, 1}, "a* | b*"},
		{testkit.Auto(2, 2, []int{0, 1}, []int{0, 1}, 0, 0, 0, 1, 1, 1), []int{1, 0}, "b* | a*"},
	} {
		e, code := elim.Order(c.a, c.order)
		if text, _ := regex.Print(e, letters); code != api.OK || text != c.want {
			t.Errorf("P21.1: Order of %v by %v: %q, %d; it should be %q", c.a, c.order, text, code, c.want)
		}
	}
}

// TestSymbols: of several edges between two states the symbols rise, each beside all the others.
func TestSymbols(t *testing.T) {
	names := []string{"a", "b", "c", "d"}
	a := testkit.Auto(2, 4, []int{0}, []int{1}, 0, 3, 1, 0, 0, 1, 0, 2, 1, 0, 3, 1, 1, 2, 1, 1, 1, 1)
	e, code := elim.Express(a)
	if text, _ := regex.Print(e, names); code != api.OK || text != "(a | c | d) (b | c)*" {
		t.Errorf("P21.1: %q, %d", text, code)
	}
	all := testkit.Auto(1, 128, []int{0}, []int{0})
	for k := range 128 {
		all.Edges = append(all.Edges, api.Edge{Sym: 127 - k})
	}
	wantExpress(t, all, testkit.Node(api.XStar, anyOf(testkit.Upto(128))), api.OK)
}

// TestEveryAuto holds all small automata by all orders against the model and against their words.
func TestEveryAuto(t *testing.T) {
	for _, size := range [][2]int{{0, 0}, {0, 1}, {1, 0}, {1, 1}, {1, 2}, {2, 0}, {2, 1}, {2, 2}} {
		for a := range testkit.Every(size[0], size[1]) {
			for _, order := range everyOrder(a.States) {
				e, code := hold(t, a, order)
				if code != api.OK {
					t.Fatalf("P21.1: of %v by %v: %d", a, order, code)
				}
				holdWords(t, a, e)
				holdByDefinition(t, a, e)
			}
		}
	}
}

// holdByDefinition holds short words against the paths and the expression's meaning.
func holdByDefinition(t *testing.T, a api.Auto, e api.Expr) {
	t.Helper()
	some := false
	for _, w := range testkit.Words(a.Symbols, 3) {
		yes := testkit.Takes(a, w)
		some = some || yes
		if testkit.Means(e, w) != yes {
			t.Fatalf("P21.3: of %v: %v, the word %v", a, e, w)
		}
	}
	// Where there is a word there is one shorter than there are states.
	if a.States <= 4 && some == is(e, api.XNone) {
		t.Fatalf("P21.4: of %v: %v", a, e)
	}
}

// TestDrawn holds drawn automata by drawn orders; what comes of doubles and of another order of the lists is the same.
func TestDrawn(t *testing.T) {
	d := testkit.Draw(rand.New(rand.NewPCG(21, 1)).IntN)
	seen := map[string]int{}
	for range 6000 {
		a := d.Auto(d(7), 1+d(3))
		if d(2) == 0 {
			a = dense(d, 2+d(5))
		}
		order := drawOrder(d, a.States)
		e, code := hold(t, a, order)
		hold(t, a, downward(a.States))
		wantOrder(t, d.Shuffled(a), order, e, code)
		wantOrder(t, testkit.InOrder(a), order, e, code)
		switch {
		case code == api.ErrSize:
			seen["too large"]++
		case is(e, api.XNone):
			seen["no word"]++
		case len(e.Nodes) > 200:
			seen["large"]++
		default:
			seen["small"]++
		}
		if code == api.OK && len(e.Nodes) < 300 {
			holdWords(t, a, e)
			holdByDefinition(t, a, e)
		}
	}
	for _, what := range []string{"too large", "no word", "large", "small"} {
		if seen[what] < 50 {
			t.Errorf("P21.1: drawn were %v", seen)
		}
	}
}

// dense draws an automaton with half of the edges that it can have.
func dense(d testkit.Draw, states int) api.Auto {
	a := api.Auto{States: states, Symbols: 2, Start: d.List(states, 1+d(2)), Final: d.List(states, 1+d(2))}
	for p := range states {
		for q := range states {
			if d(2) == 0 {
				a.Edges = append(a.Edges, api.Edge{From: p, Sym: d(2), To: q})
			}
		}
	}
	return a
}

// TestLongWords: words longer than there are states, made along the expression.
func TestLongWords(t *testing.T) {
	d := testkit.Draw(rand.New(rand.NewPCG(21, 2)).IntN)
	tried := 0
	for range 500 {
		a := dense(d, 1+d(5))
		e, code := elim.Order(a, drawOrder(d, a.States))
		if code != api.OK || is(e, api.XNone) {
			continue
		}
		tried++
		for range 10 {
			w := d.WordOf(e)
			if yes, code := nfa.Accepts(a, w); !yes || code != api.OK {
				t.Fatalf("P21.3: of %v: %v has the word %v", a, e, w)
			}
		}
	}
	if tried < 100 {
		t.Errorf("P21.3: %d tried", tried)
	}
}
