package regex

import (
	"slices"

	"wordset/api"
)

// simple goes from the last node to the first: what has become of a node's kids then lies on the pile, the first kid on top.
func simple(t tree) tree {
	var pile []tree
	pop := func() tree {
		top := pile[len(pile)-1]
		pile = pile[:len(pile)-1]
		return top
	}
	for _, head := range slices.Backward(t) {
		var made tree
		switch head.Kind {
		case api.XCat:
			made = simpleCat(pop(), pop())
		case api.XAlt:
			made = simpleAlt(pop(), pop())
		case api.XStar:
			made = simpleStar(pop())
		default:
			made = leaf(head.Kind, head.Sym)
		}
		pile = append(pile, made)
	}
	return pop()
}

func simpleCat(x, y tree) tree {
	switch {
	case x.is(api.XNone) || y.is(api.XNone):
		return leaf(api.XNone, 0)
	case x.is(api.XEmpty):
		return y
	case y.is(api.XEmpty):
		return x
	}
	return node(api.XCat, x, y)
}

func simpleAlt(x, y tree) tree {
	switch {
	case x.is(api.XNone):
		return y
	case y.is(api.XNone), slices.Equal(x, y):
		return x
	}
	return node(api.XAlt, x, y)
}

func simpleStar(x tree) tree {
	switch {
	case x.is(api.XNone), x.is(api.XEmpty):
		return leaf(api.XEmpty, 0)
	case x.is(api.XStar):
		return x
	}
	return node(api.XStar, x)
}
