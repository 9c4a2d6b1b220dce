package position_test

import (
	"math/rand/v2"
	"slices"
	"testing"

	"wordset/api"
	"wordset/nfa"
	"wordset/position"
	"wordset/regex"
	"wordset/testkit"
)

func TestExamples(t *testing.T) {
	all := []int{1, 2, 3}
	e := cat(star(alt(a, b)), a)
	wantSets(t, e, sets{symbols: []int{0, 1, 0}, first: all, last: []int{3}, follow: [][]int{all, all, nil}})
	wantAuto(t, e, 2, testkit.Auto(4, 2, []int{0}, []int{3}, 0, 0, 1, 0, 0, 3, 0, 1, 2, 1, 0, 1, 1, 0, 3, 1, 1, 2, 2, 0, 1, 2, 0, 3, 2, 1, 2))
	wantSets(t, cat(a, none), sets{symbols: []int{0}, follow: [][]int{nil}})
	wantSets(t, alt(cat(a, none), b), sets{symbols: []int{0, 1}, first: []int{2}, last: []int{2}, follow: [][]int{nil, nil}})
	wantSets(t, star(cat(a, none)), sets{symbols: []int{0}, follow: [][]int{nil}})
	wantAuto(t, star(cat(a, none)), 2, testkit.Auto(2, 2, []int{0}, []int{0}))
	wantAuto(t, empty, 0, testkit.Auto(1, 0, []int{0}, []int{0}))
	wantAuto(t, none, 0, testkit.Auto(1, 0, []int{0}, nil))
	e, both := star(cat(star(a), star(b))), []int{1, 2}
	wantSets(t, e, sets{symbols: []int{0, 1}, first: both, last: both, follow: [][]int{both, both}})
	if c := built(t, e, 2); !slices.Equal(c.Final, []int{0, 1, 2}) {
		t.Errorf("P10.4: the final states are %v", c.Final)
	}
	wantSets(t, cat(a, a), sets{symbols: []int{0, 0}, first: []int{1}, last: []int{2}, follow: [][]int{{2}, nil}})
	wantError(t, a, 0, api.ErrExpr)
	wantError(t, a, -1, api.ErrArg)
	wantError(t, a, 129, api.ErrArg)
	wantError(t, api.Expr{}, -1, api.ErrExpr)
	if c := built(t, star(letters(255)), 1); len(c.Edges) != 65280 {
		t.Errorf("P10.4: 255 letters have %d edges", len(c.Edges))
	}
	wantError(t, star(letters(256)), 1, api.ErrSize)
}

// TestNoWord: parts without a word ahead of, behind, beside and within parts that have some.
func TestNoWord(t *testing.T) {
	loop, both := star(cat(a, b)), []int{1, 2}
	dead2, dead3 := [][]int{nil, nil}, [][]int{nil, nil, nil}
	for _, c := range []struct {
		e           api.Expr
		first, last []int
		follow      [][]int
	}{
		{cat(none, loop), nil, nil, dead2},
		{cat(loop, none), nil, nil, dead2},
		{cat(cat(loop, empty), cat(empty, none)), nil, nil, dead2},
		{cat(alt(none, none), loop), nil, nil, dead2},
		{cat(loop, cat(none, empty)), nil, nil, dead2},
		{alt(loop, none), []int{1}, []int{2}, [][]int{{2}, {1}}},
		{alt(none, loop), []int{1}, []int{2}, [][]int{{2}, {1}}},
		{star(cat(loop, none)), nil, nil, dead2},
		{cat(star(none), loop), []int{1}, []int{2}, [][]int{{2}, {1}}},
		{cat(loop, star(cat(none, a))), []int{1}, []int{2}, [][]int{{2}, {1}, nil}},
		{cat(star(cat(a, none)), cat(a, b)), []int{2}, []int{3}, [][]int{nil, {3}, nil}},
		{cat(a, cat(star(cat(b, none)), b)), []int{1}, []int{3}, [][]int{{3}, nil, nil}},
		{cat(alt(cat(none, a), b), a), []int{2}, []int{3}, [][]int{nil, {3}, nil}},
		{star(alt(a, cat(star(b), none))), []int{1}, []int{1}, [][]int{{1}, nil}},
		{cat(star(alt(a, cat(star(b), none))), none), nil, nil, dead2},
		{cat(none, cat(loop, a)), nil, nil, dead3},
		{cat(cat(loop, a), none), nil, nil, dead3},
		{alt(cat(star(a), none), star(b)), []int{2}, []int{2}, [][]int{nil, {2}}},
		{alt(star(a), cat(none, star(b))), []int{1}, []int{1}, [][]int{{1}, nil}},
		{alt(cat(none, none), alt(none, cat(loop, none))), nil, nil, dead2},
		{star(cat(alt(a, none), star(alt(b, none)))), []int{1}, both, [][]int{both, both}},
	} {
		wantSets(t, c.e, sets{symbols: symbolsOf(c.e), first: c.first, last: c.last, follow: c.follow})
	}
}

// TestEmptyWord: kids that have the empty word, on either side, and stars in stars.
func TestEmptyWord(t *testing.T) {
	maybe, both := alt(a, empty), []int{1, 2}
	for _, c := range []struct {
		e           api.Expr
		first, last []int
		follow      [][]int
		final       []int
	}{
		{cat(maybe, b), both, []int{2}, [][]int{{2}, nil}, []int{2}},
		{cat(b, maybe), []int{1}, both, [][]int{{2}, nil}, both},
		{cat(maybe, star(b)), both, both, [][]int{{2}, {2}}, []int{0, 1, 2}},
		{cat(a, b), []int{1}, []int{2}, [][]int{{2}, nil}, []int{2}},
		{cat(empty, a), []int{1}, []int{1}, [][]int{nil}, []int{1}},
		{cat(a, empty), []int{1}, []int{1}, [][]int{nil}, []int{1}},
		{cat(empty, empty), nil, nil, nil, []int{0}},
		{alt(empty, none), nil, nil, nil, []int{0}},
		{alt(none, none), nil, nil, nil, nil},
		{star(none), nil, nil, nil, []int{0}},
		{cat(star(none), none), nil, nil, nil, nil},
		{star(star(a)), []int{1}, []int{1}, [][]int{{1}}, []int{0, 1}},
		{star(star(star(cat(a, b)))), []int{1}, []int{2}, [][]int{{2}, {1}}, []int{0, 2}},
		{cat(a, cat(star(star(empty)), b)), []int{1}, []int{2}, [][]int{{2}, nil}, []int{2}},
		{cat(a, cat(star(a), a)), []int{1}, []int{3}, [][]int{{2, 3}, {2, 3}, nil}, []int{3}},
	} {
		wantSets(t, c.e, sets{symbols: symbolsOf(c.e), first: c.first, last: c.last, follow: c.follow})
		if got := built(t, c.e, 2); !slices.Equal(got.Final, c.final) {
			t.Errorf("P10.4: Build of %v: the final states are %v; they should be %v", c.e, got.Final, c.final)
		}
	}
}

// TestEverySet holds every small expression against the words of the marked expression; which symbols stand at the positions makes no difference to these.
func TestEverySet(t *testing.T) {
	for _, e := range testkit.EveryExpr(7, 1) {
		want := setsByWords(e)
		wantSets(t, e, want)
		wantAuto(t, e, 1, autoOf(want, testkit.Means(e, nil), 1))
	}
}

// TestEveryWord holds every small expression's automaton against the inductive definition, at all short words, and against its shape.
func TestEveryWord(t *testing.T) {
	words := testkit.Words(2, 4)
	for _, e := range testkit.EveryExpr(6, 2) {
		c := built(t, e, 2)
		wantShape(t, e, c)
		for _, w := range words {
			if len(e.Nodes) > 5 && len(w) > 3 {
				break
			}
			if testkit.Takes(c, w) != testkit.Means(e, w) {
				t.Fatalf("P10.5: Build of %v: %v: the word %v", e, c, w)
			}
		}
	}
}

// wantShape says P10.6 of an automaton; that a position is in none of the lists is asked of the calls themselves.
func wantShape(t *testing.T, e api.Expr, c api.Auto) {
	t.Helper()
	symbols := symbolsOf(e)
	var told []int
	tell := func(list []int, code api.Errno) { told = append(told, list...) }
	tell(position.First(e))
	tell(position.Last(e))
	for p := range symbols {
		tell(position.Follow(e, p+1))
	}
	for _, p := range told {
		if p < 1 || p > len(symbols) {
			t.Fatalf("P10.6: %v: %d is no position", e, p)
		}
	}
	for _, edge := range c.Edges {
		if edge.To == 0 || edge.Sym != symbols[edge.To-1] || !slices.Contains(told, edge.To) || edge.From > 0 && !slices.Contains(told, edge.From) {
			t.Fatalf("P10.6: Build of %v: the edge %v", e, edge)
		}
	}
	if slices.Contains(c.Final, 0) != testkit.Means(e, nil) {
		t.Fatalf("P10.6: Build of %v: the final states are %v", e, c.Final)
	}
}

// TestDrawn holds larger expressions, half of them without XNone, against a model that goes by places.
func TestDrawn(t *testing.T) {
	d := testkit.Draw(rand.New(rand.NewPCG(10, 1)).IntN)
	live := 0
	for i := range 1500 {
		e := drawn(d, 1+d(60), i%2 == 0)
		want := setsByPlaces(e)
		wantSets(t, e, want)
		wantAuto(t, e, 3, autoOf(want, testkit.Means(e, nil), 3))
		wantShape(t, e, built(t, e, 3))
		if len(want.first) > 2 {
			live++
		}
	}
	if live < 500 {
		t.Errorf("%d of 1500 expressions have more than two first positions", live)
	}
}

// drawn draws an expression over three symbols; if it is to be lively, the empty word stands where no word stood.
func drawn(d testkit.Draw, nodes int, lively bool) api.Expr {
	e := d.Expr(nodes, 3)
	for i := range e.Nodes {
		if lively && e.Nodes[i].Kind == api.XNone {
			e.Nodes[i].Kind = api.XEmpty
		}
	}
	return e
}

// TestDrawnWords holds larger expressions' automata, with words of theirs and changed ones, against the definition.
func TestDrawnWords(t *testing.T) {
	d := testkit.Draw(rand.New(rand.NewPCG(10, 2)).IntN)
	taken := 0
	for i := range 3000 {
		e := drawn(d, 1+d(30), i%4 > 0)
		w := d.WordOf(e)
		if d(2) == 0 {
			w = append(w, d.List(4, d(3))...)
		}
		w = w[:min(len(w), 20)]
		want := testkit.Means(e, w)
		if want && len(w) > 2 {
			taken++
		}
		if yes, code := nfa.Accepts(built(t, e, 4), w); yes != want || code != api.OK {
			t.Fatalf("P10.5: Build of %v: the word %v: %v, %d", e, w, yes, code)
		}
		if yes, _ := regex.Matches(e, w); yes != want {
			t.Fatalf("P10.5: %v: the word %v", e, w)
		}
	}
	if taken < 300 {
		t.Errorf("%d words are taken", taken)
	}
}

// TestModels: the two models say the same, each in its own way.
func TestModels(t *testing.T) {
	for _, e := range testkit.EveryExpr(6, 1) {
		x, y := setsByWords(e), setsByPlaces(e)
		if !slices.Equal(x.first, y.first) || !slices.Equal(x.last, y.last) || !slices.EqualFunc(x.follow, y.follow, slices.Equal[[]int]) {
			t.Errorf("%v: %v, %v", e, x, y)
		}
	}
}
