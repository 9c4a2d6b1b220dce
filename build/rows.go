package build

import "wordset/api"

// rows holds where each symbol leads from each state, rising: a row is found without a look at the others.
type rows struct {
	symbols int
	ends    []int // of all rows, one behind the other
	first   []int // where each row begins
}

// newRows takes an automaton in order: its edges stand row by row already.
func newRows(a api.Auto) rows {
	r := rows{symbols: a.Symbols, first: make([]int, a.States*a.Symbols+1)}
	for _, e := range a.Edges {
		r.ends = append(r.ends, e.To)
		r.first[e.From*a.Symbols+e.Sym+1]++
	}
	for i := range a.States * a.Symbols {
		r.first[i+1] += r.first[i]
	}
	return r
}

func (r rows) of(p, sym int) []int {
	i := p*r.symbols + sym
	return r.ends[r.first[i]:r.first[i+1]]
}

// finals tells of each state whether it is final.
func finals(a api.Auto) []bool {
	final := make([]bool, a.States)
	for _, p := range a.Final {
		final[p] = true
	}
	return final
}
