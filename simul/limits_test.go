package simul_test

import (
	"math/rand/v2"
	"slices"
	"testing"

	"wordset/api"
	"wordset/nfa"
	"wordset/simul"
	"wordset/testkit"
)

// TestMayNotBe: ErrAuto, and nothing else, whatever the other arguments are, whichever of two it is.
func TestMayNotBe(t *testing.T) {
	good := testkit.Auto(3, 2, []int{2, 1}, []int{0, 0}, 0, 1, 1, 2, 0, 2)
	other := testkit.Auto(1, 3, nil, nil)
	great := testkit.Auto(4096, 2, nil, nil)
	all := func(x testkit.Answers) {
		t.Helper()
		if slices.ContainsFunc(x.Codes, func(e api.Errno) bool { return e != api.ErrAuto }) || !x.Nothing() {
			t.Errorf("P13.6: the codes are %v; each should be %d, and nothing beside them", x.Codes, api.ErrAuto)
		}
	}
	for _, bad := range testkit.Spoilt(good) {
		for _, m := range []api.Matrix{{}, relation(nil, nil, nil), relation([]int{3}), {N: -1}, {N: bad.States}} {
			all(ofOne(questions{a: bad, m: m}))
		}
		for _, beside := range []api.Auto{good, other, great, bad} {
			all(ofBoth(questions{a: bad, b: beside}))
			all(ofBoth(questions{a: beside, b: bad}))
		}
	}
}

// wrong gives relations that may not be: with rows too few or too many, of too many states, or with one number out of range.
func wrong() []api.Matrix {
	bad := []api.Matrix{{N: 3}, {N: 3, Rows: make([][]int, 2)}, {N: 3, Rows: make([][]int, 4)}, {N: 0, Rows: make([][]int, 1)}, {N: -1}, {N: lowest}, {N: most}, {N: -1, Rows: make([][]int, 1)}, {N: 4097, Rows: make([][]int, 4097)}, {N: 4097}}
	for _, n := range []int{3, 4, -1, lowest, most, 1 << 32, 1<<32 + 1, 64} {
		for _, row := range [][]int{{n}, {0, n}, {n, 1}, {2, 2, n, 2}} {
			bad = append(bad, relation(row, nil, nil), relation([]int{0}, row, nil), relation([]int{2}, []int{0, 1}, row))
		}
	}
	return bad
}

func TestWrongRelations(t *testing.T) {
	for _, a := range []api.Auto{testkit.Auto(3, 2, []int{0}, []int{1}, 0, 1, 2, 1, 0, 1), testkit.Auto(3, 0, nil, nil)} {
		for _, m := range wrong() {
			wantNoClasses(t, m)
			for _, back := range []bool{false, true} {
				wantNoIs(t, a, m, back, api.ErrArg)
			}
		}
		for _, n := range []int{0, 1, 2, 4, 4096} {
			for _, back := range []bool{false, true} {
				wantNoIs(t, a, api.Matrix{N: n, Rows: make([][]int, n)}, back, api.ErrArg)
			}
		}
		wantIs(t, a, relation(nil, nil, nil), false, true, -1, -1)
	}
}

func TestOtherSymbols(t *testing.T) {
	for first := range 4 {
		for second := range 4 {
			a, b := testkit.Auto(1, first, nil, []int{0}), testkit.Auto(2, second, nil, []int{1})
			if first == second {
				wantBetween(t, a, b, [][]int{{1}})
			} else {
				wantNoBetween(t, a, b, api.ErrSymbols)
			}
		}
	}
	wantNoBetween(t, testkit.Auto(4096, 1, nil, nil), testkit.Auto(4096, 2, nil, nil), api.ErrSymbols)
}

// crowd has as many edges as it is told, no two alike, all by one symbol.
func crowd(states, edges int) api.Auto {
	a := api.Auto{States: states, Symbols: 1}
	for i := range edges {
		a.Edges = append(a.Edges, api.Edge{From: i / states, To: i % states})
	}
	return a
}

// TestSizes: two automata may have together as many states and edges as one, edges that stand twice counted once.
func TestSizes(t *testing.T) {
	wantNoBetween(t, testkit.Auto(4096, 1, nil, nil), testkit.Auto(1, 1, nil, nil), api.ErrSize)
	wantNoBetween(t, testkit.Auto(1, 1, nil, nil), testkit.Auto(4096, 1, nil, nil), api.ErrSize)
	wantNoBetween(t, testkit.Auto(2049, 1, nil, nil), testkit.Auto(2048, 1, nil, nil), api.ErrSize)
	full, one := crowd(256, 65536), testkit.Auto(1, 1, nil, nil, 0, 0, 0)
	wantNoBetween(t, full, one, api.ErrSize)
	wantNoBetween(t, one, full, api.ErrSize)
	less := crowd(256, 65535)
	all := make([][]int, 256)
	for p := range all {
		all[p] = []int{0}
	}
	wantBetween(t, less, one, all)
	less.Edges = append(less.Edges, less.Edges[7])
	wantBetween(t, less, one, all)
	one.Edges = slices.Repeat(one.Edges, 65536)
	wantBetween(t, less, one, all)
}

// TestManyDoubles: an edge may stand as often as there may be edges, and counts once.
func TestManyDoubles(t *testing.T) {
	a := testkit.Auto(4, 1, nil, []int{3}, 0, 0, 2, 1, 0, 3)
	want := relation([]int{0, 1}, []int{1}, []int{0, 1, 2, 3}, []int{3})
	for i := range a.Edges {
		b := a
		b.Edges = append(slices.Repeat(a.Edges[i:i+1], 65535), a.Edges[1-i])
		wantGreatest(t, b, false, want)
		wantGreatest(t, turnedRound(b), true, want)
		wantIs(t, b, want, false, true, -1, -1)
		wantIs(t, b, relation(nil, []int{0}, nil, nil), false, false, 1, 0)
	}
}

// TestLongChains: as many states as may be, each pair hanging on the one behind it, in either order.
func TestLongChains(t *testing.T) {
	for _, rising := range []bool{false, true} {
		a := chain(4096, 1, rising)
		m, e := simul.Forward(a)
		if e != api.OK || m.N != 4096 || slices.ContainsFunc(testkit.Upto(4096), func(p int) bool { return !slices.Equal(m.Rows[p], []int{p}) }) {
			t.Fatalf("P13.1: Forward of a long chain: %d", e)
		}
		m, e = simul.Backward(a)
		if e != api.OK || slices.ContainsFunc(testkit.Upto(4096), func(p int) bool {
			if rising {
				return !slices.Equal(m.Rows[p], testkit.Upto(4096)[p:])
			}
			return !slices.Equal(m.Rows[p], testkit.Upto(p+1))
		}) {
			t.Fatalf("P13.1: Backward of a long chain: %d", e)
		}
		wantLong(t, a, m, true)
		m.Rows[4095] = []int{0, 4095}
		m.Rows[0] = []int{4095}
		classes, e := simul.Classes(m)
		if e != api.OK || classes[4095] != 0 || classes[4094] != 4094 {
			t.Fatalf("P13.4: Classes of a long chain: %d", e)
		}
	}
}

func wantLong(t *testing.T, a api.Auto, m api.Matrix, back bool) {
	t.Helper()
	if yes, p, q, e := simul.Is(a, m, back); !yes || p != -1 || q != -1 || e != api.OK {
		t.Fatalf("P13.3: Is of a large relation: %v, %d, %d, %d", yes, p, q, e)
	}
}

// TestLarge: as many states, symbols and edges as may be: all states alike; then all but one.
func TestLarge(t *testing.T) {
	a := api.Auto{States: 4096, Symbols: 128}
	for i := range 65536 {
		a.Edges = append(a.Edges, api.Edge{From: i / 16, Sym: 127, To: (i/16*7)%4000 + i%16})
	}
	m, e := simul.Forward(a)
	if e != api.OK || slices.ContainsFunc(m.Rows, func(row []int) bool { return !slices.Equal(row, testkit.Upto(4096)) }) {
		t.Fatalf("P13.1: Forward of many states alike: %d", e)
	}
	wantLong(t, a, m, false)
	if classes, e := simul.Classes(m); e != api.OK || slices.ContainsFunc(classes, func(c int) bool { return c != 0 }) {
		t.Fatalf("P13.4: Classes of many states alike: %d", e)
	}
	a.Final = []int{4095}
	if yes, p, q, e := simul.Is(a, m, false); yes || p != 4095 || q != 0 || e != api.OK {
		t.Fatalf("P13.3: Is of a large relation: %v, %d, %d, %d", yes, p, q, e)
	}
	m, e = simul.Forward(a)
	if e != api.OK || len(m.Rows[0]) != 4096 || !slices.Equal(m.Rows[4095], []int{4095}) {
		t.Fatalf("P13.1: Forward of many states: %d", e)
	}
}

// TestAllTold: every state does something of its own, so that none is above another; both automata are the same.
func TestAllTold(t *testing.T) {
	a := api.Auto{States: 2048, Symbols: 128}
	for p := range 2048 {
		for _, k := range []int{p % 128, p/128 + 100, (p * 5) % 99} {
			a.Edges = append(a.Edges, api.Edge{From: p, Sym: k, To: (p + k) % 2048})
		}
	}
	a.Final = []int{0, 1024}
	between, e := simul.Between(a, a)
	m, f := simul.Forward(a)
	if e != api.OK || f != api.OK || !testkit.SameGroup(between, m.Rows) {
		t.Fatalf("P13.2: Between of a large automaton and itself: %d, %d", e, f)
	}
	wantLong(t, a, m, false)
	r, e := nfa.Reverse(a)
	if e != api.OK {
		t.Fatal(e)
	}
	if b, e := simul.Backward(r); e != api.OK || !testkit.SameMatrix(b, m) {
		t.Fatalf("P13.5: Backward of a large automaton: %d", e)
	}
}

// oddRelation draws what may be a relation and what may not.
func oddRelation(d testkit.Draw, n int) api.Matrix {
	m := anyRelation(d, min(max(n, 0), 5))
	switch d(8) {
	case 0:
		m.N = d.Odd()
	case 1:
		m.Rows = append(m.Rows, d.OddList())
	case 2:
		m.Rows = m.Rows[:d(len(m.Rows)+1)]
	case 3:
		for i := range m.Rows {
			m.Rows[i] = append(m.Rows[i], d.OddList()...)
		}
	}
	return m
}

func mayBe(m api.Matrix) bool {
	return m.N >= 0 && m.N <= 4096 && len(m.Rows) == m.N && !slices.ContainsFunc(slices.Concat(m.Rows...), func(q int) bool { return q < 0 || q >= m.N })
}

// odd draws what may be and what may not.
func odd(d testkit.Draw) questions {
	q := questions{a: d.OddAuto(), b: d.OddAuto()}
	if d(4) > 0 {
		q.a = d.Kin(d(6), 2)
	}
	if d(4) > 0 {
		q.b = d.Kin(d(6), 2)
	}
	q.m = oddRelation(d, q.a.States)
	return q
}

// TestOdd: no call panics, beside an error stands nothing, and the errors come in their order.
func TestOdd(t *testing.T) {
	d := testkit.Draw(rand.New(rand.NewPCG(13, 7)).IntN)
	seen := map[api.Errno]int{}
	for range 20000 {
		q := odd(d)
		if q.a.States > 100 || q.b.States > 100 {
			continue // what is answered of so many states is looked at elsewhere
		}
		valid, classes := nfa.Valid(q.a), api.OK
		if !mayBe(q.m) {
			classes = api.ErrArg
		}
		is := classes
		if q.m.N != q.a.States {
			is = api.ErrArg
		}
		if valid != api.OK {
			is = valid
		}
		one, both, none := ofOne(q), ofBoth(q), ofNone(q)
		if want := []api.Errno{valid, valid, is, is, is}; !slices.Equal(one.Codes, slices.Repeat(want, 2)) || valid != api.OK && !one.Nothing() {
			t.Fatalf("P13.6: %v, %v: the codes are %v; they should be %v", q.a, q.m, one.Codes, want)
		}
		if is != api.OK && (slices.Contains(one.Truths, true) || one.Counts[1] != 0 || one.Counts[2] != 0 || one.Counts[4] != 0 || one.Counts[5] != 0) {
			t.Fatalf("P13.3: Is of %v, %v: %v, %v", q.a, q.m, one.Truths, one.Counts)
		}
		if none.Codes[0] != classes || classes != api.OK && !none.Nothing() {
			t.Fatalf("P13.4: Classes of %v: %v, %d", q.m, none.Lists, none.Codes[0])
		}
		_, union := nfa.Union(q.a, q.b)
		if both.Codes[0] != union || union != api.OK && !both.Nothing() {
			t.Fatalf("P13.2: Between of %v, %v: %d; it should be %d", q.a, q.b, both.Codes[0], union)
		}
		seen[valid]++
		seen[is]++
		seen[union]++
	}
	for _, e := range []api.Errno{api.OK, api.ErrAuto, api.ErrArg, api.ErrSymbols} {
		if seen[e] == 0 {
			t.Errorf("nothing that was drawn led to %d", e)
		}
	}
}

// roomy gives a relation whose rows, and the list of them, have spare room, and what looks whether it is as it was.
func roomy(m api.Matrix) (api.Matrix, func() bool) {
	var same []func() bool
	var rows [][]int
	for _, row := range append(slices.Clone(m.Rows), nil, nil) {
		list, unchanged := testkit.Roomy(row, 0)
		rows, same = append(rows, list), append(same, unchanged)
	}
	before := slices.Clone(rows)
	m.Rows = rows[:len(m.Rows)]
	return m, func() bool {
		return !slices.ContainsFunc(same, func(unchanged func() bool) bool { return !unchanged() }) &&
			slices.EqualFunc(rows, before, func(x, y []int) bool { return len(x) == len(y) && &x[:1][0] == &y[:1][0] })
	}
}

func TestMemory(t *testing.T) {
	d := testkit.Draw(rand.New(rand.NewPCG(13, 8)).IntN)
	for range 3000 {
		q := odd(d)
		if q.a.States > 100 || q.b.States > 100 {
			continue
		}
		if d(2) == 0 {
			q.b.Symbols = q.a.Symbols
		}
		var same [3]func() bool
		q.a, same[0] = testkit.RoomyAuto(q.a)
		q.b, same[1] = testkit.RoomyAuto(q.b)
		q.m, same[2] = roomy(q.m)
		unchanged := func() bool { return same[0]() && same[1]() && same[2]() }
		for _, ask := range []func(questions) testkit.Answers{ofOne, ofBoth, ofNone} {
			if wrong := testkit.Memory(func() testkit.Answers { return ask(q) }, unchanged); wrong != "" {
				t.Fatalf("P13.6: %s: %v", wrong, q)
			}
		}
	}
}

// TestOrderMakesNoDifference: all lists may be handed in in any order, with doubles.
func TestOrderMakesNoDifference(t *testing.T) {
	d := testkit.Draw(rand.New(rand.NewPCG(13, 9)).IntN)
	for range 1000 {
		q := questions{a: d.Kin(d(7), 2), b: d.Kin(d(7), 2)}
		q.b.Symbols = max(q.a.Symbols, q.b.Symbols)
		q.a.Symbols = q.b.Symbols
		q.m = anyRelation(d, q.a.States, testkit.Greatest(q.a, d(2) == 0))
		r := questions{a: d.Shuffled(q.a), b: d.Shuffled(q.b), m: api.Matrix{N: q.m.N}}
		for _, row := range q.m.Rows {
			r.m.Rows = append(r.m.Rows, mixedUp(d, row))
		}
		for _, ask := range []func(questions) testkit.Answers{ofOne, ofBoth, ofNone} {
			if !ask(q).Same(ask(r)) {
				t.Fatalf("P13.6: %v and %v are answered otherwise", q, r)
			}
		}
	}
}
