package regex

import (
	"slices"

	"wordset/api"
)

// nullables tells of each node whether the empty word is one of its words.
func nullables(t tree) []bool {
	empty := make([]bool, len(t))
	for n, head := range slices.Backward(t) {
		switch head.Kind {
		case api.XEmpty, api.XStar:
			empty[n] = true
		case api.XCat:
			empty[n] = empty[n+1] && empty[t.second(n)]
		case api.XAlt:
			empty[n] = empty[n+1] || empty[t.second(n)]
		}
	}
	return empty
}

// derivative gives the derivatives of an expression's nodes by a symbol.
type derivative struct {
	sym      int
	nodes    tree
	nullable []bool
}

func derivativeBy(sym int, nodes tree) derivative {
	return derivative{sym: sym, nodes: nodes, nullable: nullables(nodes)}
}

// size counts the nodes of the whole derivative without making it, for it may be very large.
func (d derivative) size() int {
	sizes := make([]int, len(d.nodes))
	for n, head := range slices.Backward(d.nodes) {
		sizes[n] = 1
		switch head.Kind {
		case api.XStar:
			sizes[n] += sizes[n+1] + head.Size
		case api.XAlt:
			sizes[n] += sizes[n+1] + sizes[d.nodes.second(n)]
		case api.XCat:
			y := d.nodes.second(n)
			sizes[n] += sizes[n+1] + d.nodes[y].Size
			if d.nullable[n+1] {
				sizes[n] += 1 + sizes[y]
			}
		}
	}
	return sizes[0]
}

// of makes the derivative of a node, as it is ahead of its being made simple.
func (d derivative) of(n int) tree {
	head := d.nodes[n]
	switch head.Kind {
	case api.XSym:
		if head.Sym == d.sym {
			return leaf(api.XEmpty, 0)
		}
	case api.XAlt:
		return node(api.XAlt, d.of(n+1), d.of(d.nodes.second(n)))
	case api.XCat:
		y := d.nodes.second(n)
		through := node(api.XCat, d.of(n+1), d.nodes.part(y))
		if !d.nullable[n+1] {
			return through
		}
		return node(api.XAlt, through, d.of(y))
	case api.XStar:
		return node(api.XCat, d.of(n+1), d.nodes.part(n))
	}
	return leaf(api.XNone, 0)
}
