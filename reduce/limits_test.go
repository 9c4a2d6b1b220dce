package reduce_test

import (
	"math/rand/v2"
	"slices"
	"testing"

	"wordset/api"
	"wordset/nfa"
	"wordset/reduce"
	"wordset/testkit"
)

// TestMayNotBe: ErrAuto from every call, and nothing beside it.
func TestMayNotBe(t *testing.T) {
	wrong := testkit.Spoilt(testkit.Auto(3, 2, []int{2, 1}, []int{0, 0}, 0, 1, 1, 2, 0, 2))
	for _, a := range append(wrong, api.Auto{Start: []int{0}}, api.Auto{Final: []int{0}}, testkit.Auto(1, 1, nil, nil, 0, 0, 1), testkit.Auto(1, 0, nil, nil, 0, 0, 0)) {
		x := ask(a)
		if slices.ContainsFunc(x.Codes, func(e api.Errno) bool { return e != api.ErrAuto }) || !x.Nothing() {
			t.Errorf("P14.6: %d states, %d symbols, %d edges: the codes are %v; each should be %d, and nothing beside them", a.States, a.Symbols, len(a.Edges), x.Codes, api.ErrAuto)
		}
	}
}

// TestNoStates: as many symbols as there were.
func TestNoStates(t *testing.T) {
	for _, symbols := range []int{0, 1, 128} {
		none := testkit.Auto(0, symbols, nil, nil)
		hold(t, none)
		wantReduce(t, testkit.Auto(2, symbols, []int{0}, []int{1}), none)
		wantReduce(t, testkit.Auto(2, symbols, []int{0}, nil), none)
		wantReduce(t, testkit.Auto(2, symbols, []int{1, 0}, []int{1}), testkit.Auto(1, symbols, []int{0}, []int{0}))
	}
}

// TestManyDoubles: an edge may stand as often as there may be edges, and counts once.
func TestManyDoubles(t *testing.T) {
	a := testkit.Auto(3, 1, []int{0}, []int{1, 2}, 0, 0, 1, 0, 0, 2)
	for i := range a.Edges {
		b := a
		b.Start = slices.Repeat(a.Start, 100000)
		b.Edges = append(slices.Repeat(a.Edges[i:i+1], 65535), a.Edges[1-i])
		small := testkit.Auto(2, 1, []int{0}, []int{1}, 0, 0, 1)
		wantMerged(t, b, false, small, []int{0, 1, 1})
		wantMerged(t, b, true, small, []int{0, 1, 1})
		wantPrune(t, b, testkit.Auto(3, 1, []int{0}, []int{1, 2}, 0, 0, 1))
		wantReduce(t, b, small)
	}
}

// large has as many states and edges as may be, and all its states are alike and back-alike.
func large() api.Auto {
	a := api.Auto{States: 4096, Symbols: 128, Start: testkit.Upto(4096), Final: testkit.Upto(4096)}
	for p := range 4096 {
		for i := range 16 {
			a.Edges = append(a.Edges, api.Edge{From: p, Sym: 127, To: (p + i) % 4096})
		}
	}
	return a
}

// TestAllAlike: one state is left of as many as may be; Prune leaves the least start, and of each state the edge to the least one.
func TestAllAlike(t *testing.T) {
	a := large()
	one := testkit.Auto(1, 128, []int{0}, []int{0}, 0, 127, 0)
	for _, back := range []bool{false, true} {
		if b, class, e := merge(a, back); e != api.OK || !testkit.SameAuto(b, one) || !slices.Equal(class, make([]int, 4096)) {
			t.Errorf("P14.1: of many states alike, back %v: %d states, %d", back, b.States, e)
		}
	}
	pruned := api.Auto{States: 4096, Symbols: 128, Start: []int{0}, Final: a.Final}
	for p := range 4096 {
		to := p
		if p > 4096-16 {
			to = 0
		}
		pruned.Edges = append(pruned.Edges, api.Edge{From: p, Sym: 127, To: to})
	}
	if b, e := reduce.Prune(a); e != api.OK || !testkit.SameAuto(b, pruned) {
		t.Errorf("P14.2: Prune of many states alike: %d edges, %d", len(b.Edges), e)
	}
	if b, e := reduce.Reduce(a); e != api.OK || !testkit.SameAuto(b, one) {
		t.Errorf("P14.3: Reduce of many states alike: %d states, %d", b.States, e)
	}
}

// TestNoneAlike: as many states as may be in a row, with nothing to leave out.
func TestNoneAlike(t *testing.T) {
	a := api.Auto{States: 4096, Symbols: 1, Start: []int{4095}, Final: []int{0}}
	for p := range 4095 {
		a.Edges = append(a.Edges, api.Edge{From: p + 1, To: p})
	}
	for _, back := range []bool{false, true} {
		if b, class, e := merge(a, back); e != api.OK || !testkit.SameAuto(b, a) || !slices.Equal(class, testkit.Upto(4096)) {
			t.Errorf("P14.1: of a long row, back %v: %d states, %d", back, b.States, e)
		}
	}
	if b, e := reduce.Prune(a); e != api.OK || !testkit.SameAuto(b, a) {
		t.Errorf("P14.2: Prune of a long row: %d edges, %d", len(b.Edges), e)
	}
	if b, e := reduce.Reduce(a); e != api.OK || !testkit.SameAuto(b, a) {
		t.Errorf("P14.3: Reduce of a long row: %d states, %d", b.States, e)
	}
}

// TestFans: as many edges as may be, from each of 16 states to 4096; each state is below the one ahead of it, so the least is left.
func TestFans(t *testing.T) {
	a := api.Auto{States: 4096, Symbols: 17, Start: testkit.Upto(4096), Final: testkit.Upto(4096)}
	for p := range 4095 {
		a.Edges = append(a.Edges, api.Edge{From: p, Sym: 16, To: p + 1})
	}
	for k := range 15 {
		for p := range 4096 {
			a.Edges = append(a.Edges, api.Edge{From: 0, Sym: k, To: p})
		}
	}
	b, e := reduce.Prune(a)
	if e != api.OK || !slices.Equal(b.Start, []int{0}) || len(b.Edges) != 4095+15 || slices.ContainsFunc(b.Edges, func(e api.Edge) bool { return e.Sym < 16 && e.To != 0 }) {
		t.Errorf("P14.2: Prune of large fans: %v, %d edges, %d", b.Start, len(b.Edges), e)
	}
	if b, e := reduce.Reduce(a); e != api.OK || b.States != 4096 || len(b.Edges) != 4095+15 {
		t.Errorf("P14.3: Reduce of large fans: %d states, %d edges, %d", b.States, len(b.Edges), e)
	}
}

// odd draws what may be and what may not, most of it small.
func odd(d testkit.Draw) api.Auto {
	if d(4) > 0 {
		return d.Kin(d(7), 2)
	}
	for {
		if a := d.OddAuto(); a.States <= 100 || a.States > api.MaxStates {
			return a
		}
	}
}

// TestOdd: no call panics, and all of them answer ErrAuto and nothing else, or none.
func TestOdd(t *testing.T) {
	d := testkit.Draw(rand.New(rand.NewPCG(14, 3)).IntN)
	seen := map[api.Errno]int{}
	for range 20000 {
		a := odd(d)
		x, valid := ask(a), nfa.Valid(a)
		if slices.ContainsFunc(x.Codes, func(e api.Errno) bool { return e != valid }) || valid != api.OK && !x.Nothing() {
			t.Fatalf("P14.6: %v: the codes are %v; each should be %d", a, x.Codes, valid)
		}
		seen[valid]++
	}
	if seen[api.OK] == 0 || seen[api.ErrAuto] == 0 {
		t.Errorf("P14.6: drawn were %v", seen)
	}
}

func TestMemory(t *testing.T) {
	d := testkit.Draw(rand.New(rand.NewPCG(14, 4)).IntN)
	for range 3000 {
		a, same := testkit.RoomyAuto(odd(d))
		if wrong := testkit.Memory(func() testkit.Answers { return ask(a) }, same); wrong != "" {
			t.Fatalf("P14.6: %s: %v", wrong, a)
		}
	}
	// what is left as it was is new memory too
	for _, a := range []api.Auto{{}, testkit.Auto(1, 1, []int{0}, []int{0}, 0, 0, 0), testkit.Auto(2, 1, []int{0}, []int{1}, 0, 0, 1)} {
		a, same := testkit.RoomyAuto(a)
		if wrong := testkit.Memory(func() testkit.Answers { return ask(a) }, same); wrong != "" {
			t.Fatalf("P14.6: %s: %v", wrong, a)
		}
	}
}

// TestOrderMakesNoDifference: all lists may be handed in in any order, with doubles.
func TestOrderMakesNoDifference(t *testing.T) {
	d := testkit.Draw(rand.New(rand.NewPCG(14, 5)).IntN)
	for range 2000 {
		a := d.Kin(d(8), 2)
		if b := d.Shuffled(a); !ask(a).Same(ask(b)) || !ask(a).Same(ask(testkit.InOrder(a))) {
			t.Fatalf("P14.6: %v and %v are answered otherwise", a, b)
		}
	}
}
