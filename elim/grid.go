package elim

import (
	"slices"

	"wordset/api"
)

// grid has a row for each place from which one can go on: by the places to which one gets, what is read between. Where nothing stands is no way. The place 0 is the beginning, s + 1 the state s, the last one the end.
type grid []map[int]*tree

// refusal is what is given up with, from however deep inside.
type refusal api.Errno

// gridOf takes an automaton in order.
func gridOf(a api.Auto) grid {
	g := make(grid, a.States+2)
	for x := range g {
		g[x] = map[int]*tree{}
	}
	for _, s := range a.Start {
		g.put(0, s+1, leaf(api.XEmpty, 0))
	}
	for _, s := range a.Final {
		g.put(s+1, a.States+1, leaf(api.XEmpty, 0))
	}
	// The last edge first: each symbol then comes ahead of the greater ones.
	for _, e := range slices.Backward(a.Edges) {
		x, y := e.From+1, e.To+1
		g.put(x, y, alt(leaf(api.XSym, e.Sym), g[x][y]))
	}
	return g
}

// put lets an expression stand in the place of what stood there.
func (g grid) put(x, y int, e *tree) {
	if e.size() > api.MaxExpr {
		panic(refusal(api.ErrSize))
	}
	g[x][y] = e
}

// takeOut leads all ways through a state round it.
func (g grid) takeOut(s int) {
	onward := g[s]
	loop := star(onward[s])
	delete(onward, s)
	for y, way := range onward {
		onward[y] = cat(loop, way)
	}
	for x, row := range g {
		into := row[s]
		if into == nil {
			continue
		}
		for y, way := range onward {
			g.put(x, y, alt(row[y], cat(into, way)))
		}
		delete(row, s)
	}
	g[s] = nil
}
