package reduce

import "wordset/api"

// relation tells at once whether a state is below another one: parting and pruning ask that of very many pairs.
type relation [][]bool

// relationOf gives the greatest simulation of one of both kinds.
func relationOf(a api.Auto, greatest func(api.Auto) (api.Matrix, api.Errno)) (relation, api.Errno) {
	m, err := greatest(a)
	if err != api.OK {
		return nil, err
	}
	below := make(relation, m.N)
	for p, row := range m.Rows {
		below[p] = make([]bool, m.N)
		for _, q := range row {
			below[p][q] = true
		}
	}
	return below, api.OK
}

// littleBrother tells whether p is one of q.
func (below relation) littleBrother(p, q int) bool {
	return p != q && below[p][q] && (!below[q][p] || q < p)
}
