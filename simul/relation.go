package simul

import (
	"slices"

	"wordset/api"
	"wordset/bitset"
)

// rowsOf gives the rows of a relation, or ErrArg if it may not be.
func rowsOf(m api.Matrix) ([]*bitset.Set, api.Errno) {
	if len(m.Rows) != m.N || m.N > api.MaxStates {
		return nil, api.ErrArg
	}
	rows := make([]*bitset.Set, m.N)
	for p, list := range m.Rows {
		row, err := bitset.Of(m.N, list)
		if err != api.OK {
			return nil, api.ErrArg
		}
		rows[p] = row
	}
	return rows, api.OK
}

// leastAlike gives the least state that is above a state and below it, or the state itself.
func leastAlike(rows []*bitset.Set, p int) int {
	for q := rows[p].Next(0); q >= 0 && q < p; q = rows[p].Next(q + 1) {
		if rows[q].Has(p) {
			return q
		}
	}
	return p
}

// firstBroken gives the first pair of a relation that may not stand in it; -1, -1: there is none.
func firstBroken(rows []*bitset.Set, a api.Auto, d direction) (int, int) {
	marked, all := setOf(a.States, d.marked(a)), fansOf(a, d)
	for p, row := range rows {
		for q := range row.All() {
			if marked.Has(p) && !marked.Has(q) || !all.matched(rows, p, q) {
				return p, q
			}
		}
	}
	return -1, -1
}

// matched tells whether each edge of a state has one beside it, of another state, that leads above where it leads.
func (all fans) matched(rows []*bitset.Set, p, q int) bool {
	for _, f := range all.of[p] {
		beside := all.at[place{q, f.sym}]
		if beside == nil {
			return false
		}
		for _, r := range f.heads {
			if !slices.ContainsFunc(beside.heads, rows[r].Has) {
				return false
			}
		}
	}
	return true
}
