package testkit

import (
	"slices"

	"wordset/api"
)

// Relation gives the relation on n states that has the pairs of which has tells so.
func Relation(n int, has func(p, q int) bool) api.Matrix {
	m := api.Matrix{N: n, Rows: make([][]int, n)}
	for p := range n {
		for q := range n {
			if has(p, q) {
				m.Rows[p] = append(m.Rows[p], q)
			}
		}
	}
	return m
}

// HasPair tells whether a pair is in a relation.
func HasPair(m api.Matrix, p, q int) bool { return slices.Contains(m.Rows[p], q) }

// SameMatrix compares relations row by row; empty rows may be nil.
func SameMatrix(m, n api.Matrix) bool { return m.N == n.N && SameGroup(m.Rows, n.Rows) }

// Stands says what a forward (back: a backward) simulation asks of a pair.
func Stands(a api.Auto, m api.Matrix, p, q int, back bool) bool {
	marked := a.Final
	if back {
		marked = a.Start
	}
	if slices.Contains(marked, p) && !slices.Contains(marked, q) {
		return false
	}
	for _, e := range a.Edges {
		if near(e, back) == p && !slices.ContainsFunc(a.Edges, func(f api.Edge) bool {
			return near(f, back) == q && f.Sym == e.Sym && HasPair(m, near(e, !back), near(f, !back))
		}) {
			return false
		}
	}
	return true
}

func near(e api.Edge, back bool) int {
	if back {
		return e.To
	}
	return e.From
}

// Greatest gives the greatest forward (back: backward) simulation: it leaves out what may not stand, over and over.
func Greatest(a api.Auto, back bool) api.Matrix {
	m := Relation(a.States, func(p, q int) bool { return true })
	for {
		less := Relation(a.States, func(p, q int) bool { return HasPair(m, p, q) && Stands(a, m, p, q, back) })
		if SameMatrix(m, less) {
			return m
		}
		m = less
	}
}

// Kin draws an automaton with just so many states and at most so many symbols: of few edges or many, some of its states alike.
func (d Draw) Kin(states, symbols int) api.Auto {
	a := api.Auto{States: states, Symbols: d(symbols + 1)}
	a.Start, a.Final = d.List(states, d(states+1)), d.List(states, d(states+1))
	for range d(1+d(5)*states+1) * min(a.Symbols, 1) * min(states, 1) {
		e := api.Edge{From: d(states), Sym: d(a.Symbols), To: d(states)}
		a.Edges = append(a.Edges, e)
		for _, f := range a.Edges {
			if f.From == e.To && d(3) == 0 {
				f.From = e.From
				a.Edges = append(a.Edges, f)
				break
			}
		}
	}
	return a
}
