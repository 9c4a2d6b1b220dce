package testkit

import (
	"slices"

	"wordset/api"
)

// Leaf gives an expression of one node.
func Leaf(kind api.ExprKind, sym int) api.Expr {
	return api.Expr{Nodes: []api.ExprNode{{Kind: kind, Sym: sym, Size: 1}}}
}

// Node gives an expression of a node over others.
func Node(kind api.ExprKind, kids ...api.Expr) api.Expr {
	e := Leaf(kind, 0)
	for _, kid := range kids {
		e.Nodes = append(e.Nodes, kid.Nodes...)
	}
	e.Nodes[0].Size = len(e.Nodes)
	return e
}

// Kids gives the expressions that the first node stands over.
func Kids(e api.Expr) []api.Expr {
	var kids []api.Expr
	for n := 1; n < len(e.Nodes); n += e.Nodes[n].Size {
		kids = append(kids, api.Expr{Nodes: e.Nodes[n : n+e.Nodes[n].Size]})
	}
	return kids
}

// SameExpr compares expressions node by node.
func SameExpr(a, b api.Expr) bool { return slices.Equal(a.Nodes, b.Nodes) }

// Means tells whether a word is one of an expression's.
func Means(e api.Expr, word []int) bool { return pieces(e, word)[0][len(word)] }

// pieces tells for each two places in a word whether what stands between them is one of the expression's words, by the words of the definition.
func pieces(e api.Expr, word []int) [][]bool {
	var of [][][]bool
	for _, kid := range Kids(e) {
		of = append(of, pieces(kid, word))
	}
	has := make([][]bool, len(word)+1)
	for i := range has {
		has[i] = make([]bool, len(word)+1)
	}
	// From the last place backwards, and to the nearer ones first: what is cut off a star's word is then known.
	for i := len(word); i >= 0; i-- {
		for j := i; j <= len(word); j++ {
			switch head := e.Nodes[0]; head.Kind {
			case api.XEmpty:
				has[i][j] = i == j
			case api.XSym:
				has[i][j] = j == i+1 && word[i] == head.Sym
			case api.XCat:
				has[i][j] = someCut(of[0], of[1], i, i, j)
			case api.XAlt:
				has[i][j] = of[0][i][j] || of[1][i][j]
			case api.XStar:
				has[i][j] = i == j || someCut(of[0], has, i, i+1, j)
			}
		}
	}
	return has
}

// someCut tells whether what stands from i to j can be cut, no nearer than least, into a piece of x and one of y.
func someCut(x, y [][]bool, i, least, j int) bool {
	for k := least; k <= j; k++ {
		if x[i][k] && y[k][j] {
			return true
		}
	}
	return false
}

// EveryExpr gives all expressions of at most so many nodes over so many symbols, those with fewer nodes first.
func EveryExpr(nodes, symbols int) []api.Expr {
	bySize := make([][]api.Expr, nodes+1)
	for size := 1; size <= nodes; size++ {
		bySize[size] = everyOf(size, symbols, bySize)
	}
	return slices.Concat(bySize...)
}

func everyOf(size, symbols int, smaller [][]api.Expr) []api.Expr {
	var all []api.Expr
	if size == 1 {
		all = append(all, Leaf(api.XNone, 0), Leaf(api.XEmpty, 0))
		for k := range symbols {
			all = append(all, Leaf(api.XSym, k))
		}
		return all
	}
	for _, x := range smaller[size-1] {
		all = append(all, Node(api.XStar, x))
	}
	for first := 1; first < size-1; first++ {
		for _, x := range smaller[first] {
			for _, y := range smaller[size-1-first] {
				all = append(all, Node(api.XCat, x, y), Node(api.XAlt, x, y))
			}
		}
	}
	return all
}

// Expr draws an expression of just so many nodes over so many symbols, at least one.
func (d Draw) Expr(nodes, symbols int) api.Expr {
	switch {
	case nodes == 1 && d(4) == 0:
		return Leaf(api.XNone+api.ExprKind(d(2)), 0)
	case nodes == 1:
		return Leaf(api.XSym, d(symbols))
	case nodes == 2 || d(4) == 0:
		return Node(api.XStar, d.Expr(nodes-1, symbols))
	}
	first := 1 + d(nodes-2)
	return Node(api.XCat+api.ExprKind(d(2)), d.Expr(first, symbols), d.Expr(nodes-1-first, symbols))
}

// OddExpr draws what may be an expression and may be none.
func (d Draw) OddExpr() api.Expr {
	e := d.Expr(1+d(6), 3)
	for range d(3) {
		n := &e.Nodes[d(len(e.Nodes))]
		switch d(3) {
		case 0:
			n.Kind = api.ExprKind(d.Odd())
		case 1:
			n.Sym = d.Odd()
		case 2:
			n.Size = d.Odd()
		}
	}
	e.Nodes = e.Nodes[:len(e.Nodes)-d(8)/7]
	return e
}

// WordOf draws a word of an expression, if it has no XNone.
func (d Draw) WordOf(e api.Expr) []int {
	kids := Kids(e)
	switch e.Nodes[0].Kind {
	case api.XSym:
		return []int{e.Nodes[0].Sym}
	case api.XCat:
		return append(d.WordOf(kids[0]), d.WordOf(kids[1])...)
	case api.XAlt:
		return d.WordOf(kids[d(2)])
	case api.XStar:
		var w []int
		for range d(3) {
			w = append(w, d.WordOf(kids[0])...)
		}
		return w
	}
	return nil
}

// Stars gives so many stars one over the other, over an expression.
func Stars(n int, e api.Expr) api.Expr {
	var out api.Expr
	for i := range n {
		out.Nodes = append(out.Nodes, api.ExprNode{Kind: api.XStar, Size: n - i + len(e.Nodes)})
	}
	out.Nodes = append(out.Nodes, e.Nodes...)
	return out
}

// Leaning gives an expression of so many nodes, an odd number: nodes of a kind with two kids, each over the next one and a symbol.
func Leaning(kind api.ExprKind, nodes int) api.Expr {
	var e api.Expr
	for size := nodes; size > 1; size -= 2 {
		e.Nodes = append(e.Nodes, api.ExprNode{Kind: kind, Size: size})
	}
	for len(e.Nodes) < nodes {
		e.Nodes = append(e.Nodes, api.ExprNode{Kind: api.XSym, Size: 1})
	}
	return e
}

// Long gives an expression of so many nodes, an odd number: nodes of a kind with two kids, each over a symbol and the next one.
func Long(kind api.ExprKind, nodes int) api.Expr {
	var e api.Expr
	for size := nodes; size > 1; size -= 2 {
		e.Nodes = append(e.Nodes, api.ExprNode{Kind: kind, Size: size}, api.ExprNode{Kind: api.XSym, Size: 1})
	}
	e.Nodes = append(e.Nodes, api.ExprNode{Kind: api.XSym, Size: 1})
	return e
}

// RoomyExpr gives an expression with spare room, and what looks whether it is as it was.
func RoomyExpr(e api.Expr) (api.Expr, func() bool) {
	nodes, same := Roomy(e.Nodes, api.ExprNode{})
	return api.Expr{Nodes: nodes}, same
}
