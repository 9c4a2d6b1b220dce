package testkit_test

import (
	"math/rand/v2"
	"reflect"
	"testing"

	"wordset/api"
	"wordset/testkit"
)

// The tests of all layers lean on these few answers: they are told here by hand.
func TestByHand(t *testing.T) {
	a := api.Auto{States: 2, Symbols: 2, Start: []int{1, 0, 1}, Final: []int{1}, Edges: []api.Edge{{From: 1, Sym: 0, To: 1}, {From: 0, Sym: 1, To: 1}, {From: 0, Sym: 0, To: 1}, {From: 0, Sym: 0, To: 1}}}
	ordered := api.Auto{States: 2, Symbols: 2, Start: []int{0, 1}, Final: []int{1}, Edges: []api.Edge{{From: 0, Sym: 0, To: 1}, {From: 0, Sym: 1, To: 1}, {From: 1, Sym: 0, To: 1}}}
	if b := testkit.InOrder(a); !reflect.DeepEqual(b, ordered) {
		t.Errorf("InOrder: %v", b)
	}
	if words := testkit.Words(2, 2); !reflect.DeepEqual(words, [][]int{{}, {0}, {1}, {0, 0}, {0, 1}, {1, 0}, {1, 1}}) {
		t.Errorf("Words: %v", words)
	}
	if paths := testkit.Paths(a, []int{0}); !reflect.DeepEqual(paths, [][]int{{0, 1}, {1, 1}}) {
		t.Errorf("Paths: %v", paths)
	}
	if !testkit.Takes(a, nil) || !testkit.Takes(a, []int{1, 0}) || testkit.Takes(a, []int{0, 1}) {
		t.Errorf("Takes")
	}
}

func TestDrawn(t *testing.T) {
	d := testkit.Draw(rand.New(rand.NewPCG(0, 1)).IntN)
	for range 200 {
		a := d.Auto(4, 3)
		if b := d.Shuffled(a); !testkit.SameAuto(testkit.InOrder(a), testkit.InOrder(b)) {
			t.Errorf("Shuffled: %v, %v", a, b)
		}
	}
}
