package regex

import (
	"slices"

	"wordset/api"
)

// tree is an expression's nodes, or those of a part of it.
type tree []api.ExprNode

// second gives where the second kid of a node stands.
func (t tree) second(n int) int { return n + 1 + t[n+1].Size }

// part gives a node and all that is in it; it shares the tree's memory.
func (t tree) part(n int) tree { return t[n : n+t[n].Size] }

func (t tree) is(kind api.ExprKind) bool { return t[0].Kind == kind }

func leaf(kind api.ExprKind, sym int) tree {
	return tree{{Kind: kind, Sym: sym, Size: 1}}
}

// node makes a node of copies of its kids. An XCat or an XAlt of more than two is one of the first kid and of the node of the others; of one kid it is this kid itself, so that brackets around it, however many, cost no copies.
func node(kind api.ExprKind, kids ...tree) tree {
	heads := 1
	if kind != api.XStar {
		heads = len(kids) - 1
	}
	if heads == 0 {
		return kids[0]
	}
	size := heads
	for _, kid := range kids {
		size += len(kid)
	}
	made := make(tree, 0, size)
	for i, kid := range kids {
		if i < heads {
			made = append(made, api.ExprNode{Kind: kind, Size: size - len(made)})
		}
		made = append(made, kid...)
	}
	return made
}

// mayBe goes from the last node to the first, so that the sizes of a node's kids are known to be right.
func mayBe(t tree) bool {
	if len(t) < 1 || len(t) > api.MaxExpr {
		return false
	}
	for n := range slices.Backward(t) {
		if !mayStand(t, n) {
			return false
		}
	}
	return t[0].Size == len(t)
}

func mayStand(t tree, n int) bool {
	head := t[n]
	if head.Sym < 0 || head.Sym > 0 && head.Kind != api.XSym {
		return false
	}
	kids, known := kidsOf(head.Kind)
	end := n + 1
	for range kids {
		if end == len(t) {
			return false
		}
		end += t[end].Size
	}
	return known && head.Size == end-n
}

// kidsOf tells how many kids a node has, and whether there are such nodes.
func kidsOf(kind api.ExprKind) (int, bool) {
	switch kind {
	case api.XNone, api.XEmpty, api.XSym:
		return 0, true
	case api.XStar:
		return 1, true
	case api.XCat, api.XAlt:
		return 2, true
	}
	return 0, false
}

func allBelow(t tree, symbols int) bool {
	return !slices.ContainsFunc(t, func(n api.ExprNode) bool {
		return n.Kind == api.XSym && n.Sym >= symbols
	})
}
