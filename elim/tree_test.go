package elim

import (
	"testing"

	"wordset/api"
	"wordset/regex"
	"wordset/testkit"
)

// treeOf gives an expression as the package has it.
func treeOf(e api.Expr) *tree {
	if e.Nodes[0].Kind == api.XNone {
		return nil
	}
	t := tree{head: e.Nodes[0]}
	for i, kid := range testkit.Kids(e) {
		*[...]**tree{&t.x, &t.y}[i] = treeOf(kid)
	}
	return &t
}

// TestTop: what is made of two expressions that are simple is simplified as regex.Simple does. (Between states never stands a star nor the empty word alone, so no automaton shows all of it.)
func TestTop(t *testing.T) {
	want := func(what string, made *tree, kind api.ExprKind, kids ...api.Expr) {
		t.Helper()
		simple, _ := regex.Simple(testkit.Node(kind, kids...))
		if e := (api.Expr{Nodes: made.list()}); !testkit.SameExpr(e, simple) {
			t.Fatalf("P21.1: %s of %v: %v; it should be %v", what, kids, e, simple)
		}
	}
	var all []api.Expr
	for _, e := range testkit.EveryExpr(4, 2) {
		if simple, _ := regex.Simple(e); testkit.SameExpr(simple, e) {
			all = append(all, e)
		}
	}
	if len(all) < 40 {
		t.Errorf("%d expressions are simple", len(all))
	}
	for _, x := range all {
		want("STAR", star(treeOf(x)), api.XStar, x)
		for _, y := range all {
			want("CAT", cat(treeOf(x), treeOf(y)), api.XCat, x, y)
			want("ALT", alt(treeOf(x), treeOf(y)), api.XAlt, x, y)
		}
	}
}
