package simul_test

import (
	"slices"
	"testing"

	"wordset/api"
	"wordset/simul"
	"wordset/testkit"
)

const lowest, most = -1 << 63, 1<<63 - 1

// relation gives a relation of so many rows.
func relation(rows ...[]int) api.Matrix { return api.Matrix{N: len(rows), Rows: rows} }

// numbered gives the relation on n states whose pairs, in order, are the bits of a number.
func numbered(n, bits int) api.Matrix {
	return testkit.Relation(n, func(p, q int) bool { return bits>>(p*n+q)&1 == 1 })
}

// inside tells whether a relation has no pair that another one has not.
func inside(m, among api.Matrix) bool {
	for p, row := range m.Rows {
		if slices.ContainsFunc(row, func(q int) bool { return !testkit.HasPair(among, p, q) }) {
			return false
		}
	}
	return true
}

// modelIs says P13.3.
func modelIs(a api.Auto, m api.Matrix, back bool) (bool, int, int) {
	for p := range a.States {
		for q := range a.States {
			if testkit.HasPair(m, p, q) && !testkit.Stands(a, m, p, q, back) {
				return false, p, q
			}
		}
	}
	return true, -1, -1
}

// modelBetween says P13.2.
func modelBetween(a, b api.Auto) [][]int {
	m := testkit.Greatest(testkit.SideBySide(a, b), false)
	above := make([][]int, a.States)
	for p := range above {
		for _, q := range m.Rows[p] {
			if q >= a.States {
				above[p] = append(above[p], q-a.States)
			}
		}
	}
	return above
}

// modelClasses says P13.4.
func modelClasses(m api.Matrix) []int {
	class := make([]int, m.N)
	for p := range class {
		class[p] = slices.IndexFunc(testkit.Upto(m.N), func(q int) bool { return q == p || testkit.HasPair(m, p, q) && testkit.HasPair(m, q, p) })
	}
	return class
}

// turnedRound is an automaton read backwards.
func turnedRound(a api.Auto) api.Auto {
	r := api.Auto{States: a.States, Symbols: a.Symbols, Start: a.Final, Final: a.Start}
	for _, e := range a.Edges {
		r.Edges = append(r.Edges, api.Edge{From: e.To, Sym: e.Sym, To: e.From})
	}
	return r
}

func greatest(a api.Auto, back bool) (api.Matrix, api.Errno) {
	if back {
		return simul.Backward(a)
	}
	return simul.Forward(a)
}

func wantGreatest(t *testing.T, a api.Auto, back bool, want api.Matrix) {
	t.Helper()
	if m, e := greatest(a, back); e != api.OK || !testkit.SameMatrix(m, want) {
		t.Fatalf("P13.1: the greatest one of %v, back %v: %v, %d; it should be %v", a, back, m, e, want)
	}
}

func wantBetween(t *testing.T, a, b api.Auto, want [][]int) {
	t.Helper()
	if l, e := simul.Between(a, b); e != api.OK || !testkit.SameGroup(l, want) {
		t.Fatalf("P13.2: Between of %v, %v: %v, %d; it should be %v", a, b, l, e, want)
	}
}

func wantNoBetween(t *testing.T, a, b api.Auto, want api.Errno) {
	t.Helper()
	if l, e := simul.Between(a, b); e != want || l != nil {
		t.Fatalf("P13.2: Between of %d and %d states: %v, %d; it should be nothing, %d", a.States, b.States, l, e, want)
	}
}

func wantIs(t *testing.T, a api.Auto, m api.Matrix, back, want bool, p, q int) {
	t.Helper()
	if yes, r, s, e := simul.Is(a, m, back); yes != want || r != p || s != q || e != api.OK {
		t.Fatalf("P13.3: Is of %v, %v, %v: %v, %d, %d, %d; it should be %v, %d, %d", a, m, back, yes, r, s, e, want, p, q)
	}
}

func wantNoIs(t *testing.T, a api.Auto, m api.Matrix, back bool, want api.Errno) {
	t.Helper()
	if yes, r, s, e := simul.Is(a, m, back); yes || r != 0 || s != 0 || e != want {
		t.Fatalf("P13.3: Is of %d states, %d rows, %v: %v, %d, %d, %d; it should be nothing, %d", a.States, m.N, back, yes, r, s, e, want)
	}
}

func wantClasses(t *testing.T, m api.Matrix, want []int) {
	t.Helper()
	if l, e := simul.Classes(m); e != api.OK || !slices.Equal(l, want) {
		t.Fatalf("P13.4: Classes of %v: %v, %d; it should be %v", m, l, e, want)
	}
}

func wantNoClasses(t *testing.T, m api.Matrix) {
	t.Helper()
	if l, e := simul.Classes(m); e != api.ErrArg || l != nil {
		t.Fatalf("P13.4: Classes of %d, %d rows: %v, %d; it should be nothing, %d", m.N, len(m.Rows), l, e, api.ErrArg)
	}
}

// questions are what all calls are asked with.
type questions struct {
	a, b api.Auto
	m    api.Matrix
}

// ofOne asks the calls that take one automaton.
func ofOne(q questions) testkit.Answers {
	var x testkit.Answers
	for _, back := range []bool{false, true} {
		m, e := greatest(q.a, back)
		x.Count(m.N, e)
		x.Group(m.Rows, e)
		yes, r, s, e := simul.Is(q.a, q.m, back)
		x.Truth(yes, e)
		x.Count(r, e)
		x.Count(s, e)
	}
	return x
}

// ofBoth asks Between.
func ofBoth(q questions) testkit.Answers {
	var x testkit.Answers
	x.Group(simul.Between(q.a, q.b))
	return x
}

// ofNone asks Classes.
func ofNone(q questions) testkit.Answers {
	var x testkit.Answers
	x.List(simul.Classes(q.m))
	return x
}
