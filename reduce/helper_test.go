package reduce_test

import (
	"slices"
	"testing"

	"wordset/api"
	"wordset/minimal"
	"wordset/reduce"
	"wordset/subset"
	"wordset/testkit"
	"wordset/trim"
)

// alike tells whether each of two states is below the other one.
func alike(m api.Matrix, p, q int) bool { return testkit.HasPair(m, p, q) && testkit.HasPair(m, q, p) }

// littleBrother says the chapter's words on two states.
func littleBrother(m api.Matrix, p, q int) bool {
	return q != p && testkit.HasPair(m, p, q) && (!testkit.HasPair(m, q, p) || q < p)
}

// modelMerged says P14.1; back: of Back.
func modelMerged(a api.Auto, back bool) (api.Auto, []int) {
	m := testkit.Greatest(a, back)
	var least, class []int
	for p := range a.States {
		if !slices.ContainsFunc(testkit.Upto(p), func(q int) bool { return alike(m, p, q) }) {
			least = append(least, p)
		}
	}
	for p := range a.States {
		class = append(class, slices.IndexFunc(least, func(q int) bool { return alike(m, p, q) }))
	}
	b := api.Auto{States: len(least), Symbols: a.Symbols}
	for _, p := range a.Start {
		b.Start = append(b.Start, class[p])
	}
	for _, p := range a.Final {
		b.Final = append(b.Final, class[p])
	}
	for _, e := range a.Edges {
		b.Edges = append(b.Edges, api.Edge{From: class[e.From], Sym: e.Sym, To: class[e.To]})
	}
	return testkit.InOrder(b), class
}

// modelPrune says P14.2.
func modelPrune(a api.Auto) api.Auto {
	m := testkit.Greatest(a, false)
	b := api.Auto{States: a.States, Symbols: a.Symbols, Final: a.Final}
	for _, p := range a.Start {
		if !slices.ContainsFunc(a.Start, func(q int) bool { return littleBrother(m, p, q) }) {
			b.Start = append(b.Start, p)
		}
	}
	for _, e := range a.Edges {
		if !slices.ContainsFunc(a.Edges, func(f api.Edge) bool {
			return f.From == e.From && f.Sym == e.Sym && littleBrother(m, e.To, f.To)
		}) {
			b.Edges = append(b.Edges, e)
		}
	}
	return testkit.InOrder(b)
}

// modelReduce says P14.3, and in how many rounds something changed.
func modelReduce(a api.Auto) (api.Auto, int) {
	before := testkit.InOrder(a)
	for rounds := 0; ; rounds++ {
		b, _, _ := trim.Trim(before)
		b, _ = modelMerged(b, false)
		b = modelPrune(b)
		b, _ = modelMerged(b, true)
		if testkit.SameAuto(before, b) {
			return b, rounds
		}
		before = b
	}
}

func merge(a api.Auto, back bool) (api.Auto, []int, api.Errno) {
	if back {
		return reduce.Back(a)
	}
	return reduce.Quotient(a)
}

func wantMerged(t *testing.T, a api.Auto, back bool, want api.Auto, class []int) {
	t.Helper()
	if b, to, e := merge(a, back); e != api.OK || !testkit.SameAuto(b, want) || !slices.Equal(to, class) {
		t.Fatalf("P14.1: of %v, back %v: %v, %v, %d; it should be %v, %v", a, back, b, to, e, want, class)
	}
}

func wantPrune(t *testing.T, a, want api.Auto) {
	t.Helper()
	if b, e := reduce.Prune(a); e != api.OK || !testkit.SameAuto(b, want) {
		t.Fatalf("P14.2: Prune of %v: %v, %d; it should be %v", a, b, e, want)
	}
}

func wantReduce(t *testing.T, a, want api.Auto) {
	t.Helper()
	if b, e := reduce.Reduce(a); e != api.OK || !testkit.SameAuto(b, want) {
		t.Fatalf("P14.3: Reduce of %v: %v, %d; it should be %v", a, b, e, want)
	}
}

// sameWords tells whether two automata take the same words, however long.
func sameWords(t *testing.T, a, b api.Auto) bool {
	t.Helper()
	d, _, e := subset.Make(a, 0)
	f, _, g := subset.Make(b, 0)
	if e != api.OK || g != api.OK {
		t.Fatalf("%v, %v: %d, %d", a, b, e, g)
	}
	same, _, e := minimal.Equal(d, f)
	return same && e == api.OK
}

// noMore tells whether an automaton has no more states, starts, finals and edges than another one has, doubles not counted.
func noMore(b, a api.Auto) bool {
	a = testkit.InOrder(a)
	return b.Symbols == a.Symbols && b.States <= a.States && len(b.Start) <= len(a.Start) && len(b.Final) <= len(a.Final) && len(b.Edges) <= len(a.Edges)
}

// ask asks all calls.
func ask(a api.Auto) testkit.Answers {
	var x testkit.Answers
	for _, back := range []bool{false, true} {
		b, class, e := merge(a, back)
		x.Auto(b, e)
		x.List(class, e)
	}
	x.Auto(reduce.Prune(a))
	x.Auto(reduce.Reduce(a))
	return x
}
