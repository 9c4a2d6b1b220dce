package subset_test

import (
	"math/rand/v2"
	"slices"
	"testing"

	"wordset/api"
	"wordset/subset"
	"wordset/testkit"
)

// TestValid: the limits themselves, and one more; Final in any order, with doubles, as long as may be.
func TestValid(t *testing.T) {
	of := func(states, symbols int) api.Dfa {
		return api.Dfa{States: states, Symbols: symbols, Next: make([]int, states*symbols)}
	}
	many := of(2, 1)
	many.Final = make([]int, 10000)
	for _, d := range []api.Dfa{of(1, 0), of(1, 1), of(4096, 0), of(4096, 128), of(1, 128), {States: 3, Start: 2, Final: []int{2, 0, 2, 1, 1}}, {States: 1, Final: []int{}, Next: []int{}}, many} {
		if e := subset.Valid(d); e != api.OK {
			t.Errorf("P11.1: Valid of %d states, %d symbols: %d", d.States, d.Symbols, e)
		}
	}
	good := testkit.Dfa(3, 2, 1, []int{2, 0, 2}, 0, 1, 2, 0, 1, 2)
	bad := append(testkit.SpoiltDfa(good), of(0, 0), of(0, 1), of(4097, 0), of(4097, 1), of(1, 129), of(4096, 129), api.Dfa{States: 1, Next: []int{0}}, api.Dfa{States: 2, Symbols: 1, Next: []int{0, 2}}, api.Dfa{Symbols: 1, Next: []int{0}})
	for _, d := range bad {
		if e := subset.Valid(d); e != api.ErrDfa {
			t.Errorf("P11.1: Valid of %d states, %d symbols: %d", d.States, d.Symbols, e)
		}
	}
}

// TestMayNotBe: ErrAuto and ErrDfa, and nothing else, whatever the other arguments are.
func TestMayNotBe(t *testing.T) {
	good := testkit.Dfa(3, 2, 1, []int{2, 0, 2}, 0, 1, 2, 0, 1, 2)
	other := api.Dfa{States: 1, Symbols: 3, Next: []int{0, 0, 0}}
	all := func(x testkit.Answers, want api.Errno) {
		t.Helper()
		if slices.ContainsFunc(x.Codes, func(e api.Errno) bool { return e != want }) || !x.Nothing() {
			t.Errorf("P11.10: the codes are %v; each should be %d, and nothing beside them", x.Codes, want)
		}
	}
	for _, budget := range []int{0, 1, -1, most} {
		for _, bad := range append(testkit.Spoilt(last()), api.Auto{Start: []int{0}}, api.Auto{States: 1, Edges: []api.Edge{{}}}, api.Auto{Symbols: 1, Edges: []api.Edge{{}}}) {
			all(ofAuto(questions{a: bad, budget: budget}), api.ErrAuto)
		}
		for _, bad := range append(testkit.SpoiltDfa(good), api.Dfa{}) {
			for _, w := range [][]int{nil, {0}, {-1}, {5}} {
				all(ofDfa(questions{d: bad, w: w}), api.ErrDfa)
			}
			for _, op := range []int{8, -1, 16} {
				for _, beside := range []api.Dfa{good, other, bad} {
					all(ofBoth(questions{d: bad, e: beside, op: op, budget: budget}), api.ErrDfa)
					all(ofBoth(questions{d: beside, e: bad, op: op, budget: budget}), api.ErrDfa)
				}
			}
		}
	}
}

// TestErrorsInOrder: other symbols, then op, then the search: what is too many for the budget ahead of what is too many at all.
func TestErrorsInOrder(t *testing.T) {
	one, two := ring(17, 1), ring(241, 1) // 17 * 241 is one more than 4096
	wide := ring(241, 1, 1)
	for _, c := range []struct {
		d, e       api.Dfa
		op, budget int
		want       api.Errno
	}{
		{one, wide, 16, 1, api.ErrSymbols}, {wide, one, -1, 1, api.ErrSymbols}, {one, wide, 8, 1, api.ErrSymbols}, {wide, api.Dfa{States: 1}, 8, 0, api.ErrSymbols}, {api.Dfa{States: 1}, one, 99, 0, api.ErrSymbols},
		{one, two, 16, 1, api.ErrArg}, {one, two, -1, 1, api.ErrArg}, {one, two, least, 0, api.ErrArg}, {one, two, most, 0, api.ErrArg}, {one, two, 17, 4096, api.ErrArg}, {one, two, 1 << 32, 0, api.ErrArg},
		{one, two, 0, 1, api.ErrBudget}, {one, two, 15, 4095, api.ErrBudget}, {one, two, 8, 4096, api.ErrBudget},
		{one, two, 8, 4097, api.ErrSize}, {one, two, 0, 0, api.ErrSize}, {two, one, 15, -1, api.ErrSize}, {two, one, 6, least, api.ErrSize}, {two, one, 6, most, api.ErrSize},
	} {
		wantNoJoin(t, c.d, c.e, c.op, c.budget, c.want)
	}
	for _, op := range []int{0, 15} {
		j, pairs, e := subset.Join(one, ring(17, 1), op, 17)
		if e != api.OK || j.States != 17 || len(pairs) != 17 || len(j.Final) != 17*(op/15) {
			t.Errorf("P11.5: Join, op %d: %d states, %d finals, %d", op, j.States, len(j.Final), e)
		}
	}
}

// TestShapeAheadOfSize: an automaton that would be too large and goes two ways has no such form.
func TestShapeAheadOfSize(t *testing.T) {
	full := modelAuto(ring(4096, slices.Repeat([]int{1}, 16)...))
	if len(full.Edges) != 65536 {
		t.Fatalf("%d edges", len(full.Edges))
	}
	wantComplete(t, full, ring(4096, slices.Repeat([]int{1}, 16)...))
	less := full
	less.Edges = full.Edges[:65535]
	none := full
	none.Start = nil
	for _, a := range []api.Auto{less, none, {States: 4096}, {States: 4096, Symbols: 1, Start: []int{5}}, line(4096)} {
		d, e := subset.Complete(a)
		wantError(t, "P11.3: Complete of one state too many", d, e, api.ErrSize)
		if one, e := subset.Single(a); !one || e != api.OK {
			t.Errorf("P11.3: Single: %v, %d", one, e)
		}
		a.Start = []int{3, 4}
		d, e = subset.Complete(a)
		wantError(t, "P11.3: Complete of two starts and a state too many", d, e, api.ErrShape)
	}
	a := line(4096)
	a.Edges = append(a.Edges, api.Edge{From: 9, To: 9})
	d, e := subset.Complete(a)
	wantError(t, "P11.3: Complete of two successors and a state too many", d, e, api.ErrShape)
	wantComplete(t, api.Auto{States: 4096, Start: []int{5, 5}}, testkit.Dfa(4096, 0, 5, nil))
	wantComplete(t, line(4095), modelOfLine(4095))
	over := full
	over.Edges = append(slices.Clone(full.Edges), full.Edges[0])
	d, e = subset.Complete(over)
	wantError(t, "P11.3: Complete of one edge too many", d, e, api.ErrAuto)
}

// modelOfLine is a line made complete: behind its last state comes one more, which stays.
func modelOfLine(n int) api.Dfa {
	d := api.Dfa{States: n + 1, Symbols: 1, Final: []int{n - 1}}
	for s := range n + 1 {
		d.Next = append(d.Next, min(s+1, n))
	}
	return d
}

// TestMostSets: 4096 sets and one more; a budget of just as many, and of one less.
func TestMostSets(t *testing.T) {
	for _, a := range []api.Auto{line(4095), letter(13)} {
		for _, budget := range []int{0, 4096, 4097, -1} {
			d, sets, e := subset.Make(a, budget)
			if e != api.OK || d.States != 4096 || len(sets) != 4096 {
				t.Errorf("P11.2: Make of %d states, budget %d: %d states, %d", a.States, budget, d.States, e)
			}
		}
		wantNoMake(t, a, 4095, api.ErrBudget)
	}
	for budget, want := range map[int]api.Errno{0: api.ErrSize, -1: api.ErrSize, least: api.ErrSize, most: api.ErrSize, 4097: api.ErrSize, 4098: api.ErrSize, 4096: api.ErrBudget, 4095: api.ErrBudget, 1: api.ErrBudget} {
		wantNoMake(t, line(4096), budget, want)
	}
	d, sets, e := subset.Make(line(4095), 0)
	wantDfa(t, "P11.2: Make of a line", d, e, modelOfLine(4095))
	if !slices.Equal(sets[4094], []int{4094}) || len(sets[4095]) != 0 {
		t.Errorf("P11.2: the last sets are %v", sets[4094:])
	}
}

// TestLetters: all sets that hold 0, each of them as the numbers of the symbols 1 among the last ones say.
func TestLetters(t *testing.T) {
	for n := 2; n <= 9; n++ {
		d, sets, e := subset.Make(letter(n), 1<<(n-1))
		if e != api.OK || d.States != 1<<(n-1) {
			t.Fatalf("P11.2: Make of %d states: %d states, %d", n, d.States, e)
		}
		for _, w := range testkit.Words(2, min(n, 7)) {
			set := []int{0}
			for i := 1; i < n && i <= len(w); i++ {
				if w[len(w)-i] == 1 {
					set = append(set, i)
				}
			}
			if got := sets[testkit.Leads(d, w)]; !slices.Equal(got, set) {
				t.Fatalf("P11.8: %d states: %v leads to %v; it should lead to %v", n, w, got, set)
			}
		}
	}
}

// TestLarge: as many states, symbols and edges as may be.
func TestLarge(t *testing.T) {
	a := api.Auto{States: 4096, Symbols: 16, Start: testkit.Upto(4096), Final: []int{4095}}
	for p := range 4096 {
		for k := range 16 {
			a.Edges = append(a.Edges, api.Edge{From: p, Sym: k, To: max(p-1, 0)})
		}
	}
	d, sets, e := subset.Make(a, 4096)
	if e != api.OK || d.States != 4096 || !slices.Equal(d.Final, []int{0}) || len(d.Next) != 65536 {
		t.Fatalf("P11.2: Make of sets that shrink: %d states, finals %v, %d", d.States, d.Final, e)
	}
	for s, set := range sets {
		if !slices.Equal(set, testkit.Upto(4096-s)) || d.Next[16*s] != min(s+1, 4095) || d.Next[16*s+15] != min(s+1, 4095) {
			t.Fatalf("P11.2: the set %d has %d states, and goes on to %d", s, len(set), d.Next[16*s])
		}
	}
	a.Symbols = 128 // the symbols without edges lead to the empty set: one set too many
	wantNoMake(t, a, 0, api.ErrSize)
	wide := ring(4096, testkit.Upto(128)...)
	turned, e := subset.Turn(wide)
	if e != api.OK || !slices.Equal(turned.Final, testkit.Upto(4096)[1:]) || !slices.Equal(turned.Next, wide.Next) {
		t.Errorf("P11.4: Turn of a large one: %d", e)
	}
	j, pairs, e := subset.Join(wide, wide, 8, 4096)
	if e != api.OK || j.States != 4096 || !slices.Equal(j.Final, []int{0}) || pairs[4095][0] != pairs[4095][1] {
		t.Errorf("P11.5: Join of large ones: %d states, %d", j.States, e)
	}
	wantNoJoin(t, wide, wide, 8, 4095, api.ErrBudget)
	w := make([]int, 100000)
	for i := range w {
		w[i] = i * i % 128
	}
	wantAfter(t, wide, w, testkit.Leads(wide, w), testkit.Leads(wide, w) == 0, api.OK)
}

// TestMostPairs: 64 * 64 pairs.
func TestMostPairs(t *testing.T) {
	d, e := ring(64, 1, 0), ring(64, 0, 1)
	j, pairs, code := subset.Join(d, e, 14, 4096)
	if code != api.OK || j.States != 4096 || len(pairs) != 4096 || len(j.Final) != 127 {
		t.Errorf("P11.5: Join of 4096 pairs: %d states, %d finals, %d", j.States, len(j.Final), code)
	}
	wantNoJoin(t, d, e, 14, 4095, api.ErrBudget)
	wantNoJoin(t, ring(65, 1, 0), e, 14, 4096, api.ErrBudget)
	wantNoJoin(t, d, ring(65, 0, 1), 14, 4097, api.ErrSize)
}

// TestMostEdges: 65536 edges and more.
func TestMostEdges(t *testing.T) {
	for _, c := range []struct{ states, symbols int }{{512, 128}, {4096, 16}, {1024, 64}, {4096, 0}, {1, 128}} {
		d := ring(c.states, testkit.Upto(c.symbols)...)
		wantAuto(t, d, modelAuto(d))
	}
	for _, c := range []struct{ states, symbols int }{{993, 66}, {513, 128}, {4096, 17}, {4096, 128}, {3856, 17}} { // 993 * 66 is 65538: no two numbers that may be make one less
		wantNoAuto(t, ring(c.states, testkit.Upto(c.symbols)...), api.ErrSize)
	}
	d := ring(3855, testkit.Upto(17)...) // 65535 edges
	wantAuto(t, d, modelAuto(d))
}

func TestWrongWords(t *testing.T) {
	d := testkit.Dfa(3, 2, 2, []int{2, 0, 2}, 0, 1, 2, 0, 1, 2)
	for _, w := range [][]int{{2}, {-1}, {0, 2}, {1, 1, -1}, {2, 0}, {most}, {least}, {1 << 32}} {
		wantAfter(t, d, w, 0, false, api.ErrWord)
	}
	wantAfter(t, testkit.Dfa(2, 0, 1, []int{1}), []int{0}, 0, false, api.ErrWord)
	wantAfter(t, testkit.Dfa(2, 0, 1, []int{1}), nil, 1, true, api.OK)
	wantAfter(t, d, []int{}, 2, true, api.OK)
	wantAfter(t, d, []int{0, 0}, 2, true, api.OK)
}

// odd draws what may be and what may not.
func odd(d testkit.Draw) questions {
	q := questions{a: d.OddAuto(), d: d.OddDfa(), e: d.OddDfa(), w: d.OddList(), op: d.Odd(), budget: d.Odd()}
	if d(2) == 0 {
		q.a, q.op = d.Auto(4, 3), d(16)
	}
	return q
}

// TestOdd: no call panics, beside an error stands nothing, and the errors come in their order.
func TestOdd(t *testing.T) {
	d := testkit.Draw(rand.New(rand.NewPCG(11, 7)).IntN)
	seen := map[api.Errno]int{}
	for range 20000 {
		q := odd(d)
		valid := subset.Valid(q.d)
		for _, x := range []testkit.Answers{ofAuto(q), ofDfa(q), ofBoth(q)} {
			for _, e := range x.Codes {
				seen[e]++
			}
			if !slices.Contains(x.Codes, api.OK) && !x.Nothing() {
				t.Fatalf("P11.10: answers beside errors: %v", q)
			}
		}
		both := ofBoth(q)
		if e := both.Codes[0]; e != api.OK && !both.Nothing() || (e == api.ErrDfa) != (valid != api.OK || subset.Valid(q.e) != api.OK) || e == api.OK && q.d.Symbols != q.e.Symbols {
			t.Fatalf("P11.5: Join of %v: %d", q, e)
		}
		if x := ofDfa(q); x.Codes[1] != valid || x.Codes[2] != valid || valid != api.OK && x.Codes[3] != valid {
			t.Fatalf("P11.10: %v: the codes are %v", q, x.Codes)
		}
	}
	for _, e := range []api.Errno{api.OK, api.ErrAuto, api.ErrDfa, api.ErrSymbols, api.ErrWord, api.ErrArg, api.ErrShape, api.ErrBudget} {
		if seen[e] == 0 {
			t.Errorf("nothing that was drawn led to %d", e)
		}
	}
}

func TestMemory(t *testing.T) {
	d := testkit.Draw(rand.New(rand.NewPCG(11, 8)).IntN)
	for i := range 2000 {
		q := odd(d)
		if i%2 == 0 {
			symbols := d(4)
			q = questions{a: d.Auto(4, 3), d: d.Dfa(5, symbols), e: d.Dfa(5, symbols), w: d.List(symbols, 5), op: d(16), budget: d(30)}
			q.a.Start = q.a.Start[:min(len(q.a.Start), 1)]
		}
		var same [4]func() bool
		q.a, same[0] = testkit.RoomyAuto(q.a)
		q.d, same[1] = testkit.RoomyDfa(q.d)
		q.e, same[2] = testkit.RoomyDfa(q.e)
		q.w, same[3] = testkit.Roomy(q.w, 0)
		unchanged := func() bool { return same[0]() && same[1]() && same[2]() && same[3]() }
		for _, ask := range []func(questions) testkit.Answers{ofAuto, ofDfa, ofBoth} {
			if wrong := testkit.Memory(func() testkit.Answers { return ask(q) }, unchanged); wrong != "" {
				t.Fatalf("P11.10: %s: %v", wrong, q)
			}
		}
	}
}

// TestOrderMakesNoDifference: lists may be handed in in any order, with doubles.
func TestOrderMakesNoDifference(t *testing.T) {
	d := testkit.Draw(rand.New(rand.NewPCG(11, 9)).IntN)
	for range 1000 {
		symbols := d(3)
		q := questions{a: d.Auto(4, 3), d: d.Dfa(4, symbols), e: d.Dfa(4, symbols), w: d.List(symbols, 4), op: d(16)}
		r := q
		r.a = testkit.InOrder(q.a)
		q.a = d.Shuffled(q.a)
		r.d, r.e = rising(q.d), rising(q.e)
		if !ofAuto(q).Same(ofAuto(r)) || !ofDfa(q).Same(ofDfa(r)) || !ofBoth(q).Same(ofBoth(r)) {
			t.Fatalf("P11.1: other answers in another order: %v", q)
		}
	}
}
