package elim

import "wordset/api"

// tree is an expression; nil is XNone. It never changes, so others may have it as a part, and a new one costs one node, however large its parts are.
type tree struct {
	head api.ExprNode
	x, y *tree
}

func leaf(kind api.ExprKind, sym int) *tree {
	return &tree{head: api.ExprNode{Kind: kind, Sym: sym, Size: 1}}
}

// over makes a node of one kid or two.
func over(kind api.ExprKind, x, y *tree) *tree {
	return &tree{head: api.ExprNode{Kind: kind, Size: 1 + x.size() + y.size()}, x: x, y: y}
}

func (t *tree) size() int {
	if t == nil {
		return 0
	}
	return t.head.Size
}

func (t *tree) is(kind api.ExprKind) bool { return t != nil && t.head.Kind == kind }

func cat(x, y *tree) *tree {
	switch {
	case x == nil || y == nil:
		return nil
	case x.is(api.XEmpty):
		return y
	case y.is(api.XEmpty):
		return x
	}
	return over(api.XCat, x, y)
}

func alt(x, y *tree) *tree {
	switch {
	case x == nil:
		return y
	case y == nil || same(x, y):
		return x
	}
	return over(api.XAlt, x, y)
}

func star(x *tree) *tree {
	switch {
	case x == nil || x.is(api.XEmpty):
		return leaf(api.XEmpty, 0)
	case x.is(api.XStar):
		return x
	}
	return over(api.XStar, x, nil)
}

// same compares node by node; a part that both have in common needs no look into it, and nodes of one kind have as many kids.
func same(v, w *tree) bool {
	return v == w || v.head == w.head && same(v.x, w.x) && same(v.y, w.y)
}

// list gives the nodes of an expression, each ahead of its kids.
func (t *tree) list() []api.ExprNode {
	if t == nil {
		return []api.ExprNode{{Kind: api.XNone, Size: 1}}
	}
	return t.behind(make([]api.ExprNode, 0, t.size()))
}

// behind puts the nodes behind others.
func (t *tree) behind(list []api.ExprNode) []api.ExprNode {
	if t == nil {
		return list
	}
	return t.y.behind(t.x.behind(append(list, t.head)))
}
