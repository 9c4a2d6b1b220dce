package nfa_test

import (
	"math/rand/v2"
	"slices"
	"testing"

	"wordset/api"
	"wordset/nfa"
	"wordset/testkit"
)

// ask asks all calls.
func ask(a, b api.Auto, list, word []int, n int) testkit.Answers {
	var x testkit.Answers
	x.Code(nfa.Valid(a))
	x.Auto(nfa.Normal(a))
	x.Truth(nfa.Same(a, b), api.OK)
	x.List(nfa.Post(a, list, n))
	x.List(nfa.Pre(a, list, n))
	x.List(nfa.After(a, word))
	x.Truth(nfa.Accepts(a, word))
	x.Truth(nfa.Runs(a, list, word))
	x.List(nfa.Path(a, word))
	x.Auto(nfa.Reverse(a))
	x.Auto(nfa.Union(a, b))
	x.Auto(nfa.Widen(a, n, list))
	return x
}

// draw draws arguments of all calls, most of them such that may be.
func draw(d testkit.Draw) (a, b api.Auto, list, word []int, n int) {
	a, b = d.Auto(4, 3), d.Auto(4, 3)
	if d(3) == 0 {
		b = d.Shuffled(a)
	}
	return a, b, d.List(a.States, d(5)), d.List(a.Symbols, d(5)), d(5)
}

func TestNormalChangesNothing(t *testing.T) {
	d := testkit.Draw(rand.New(rand.NewPCG(6, 10)).IntN)
	for range 2000 {
		a, b, list, word, n := draw(d)
		want := ask(testkit.InOrder(a), testkit.InOrder(b), list, word, n)
		for _, x := range []api.Auto{a, d.Shuffled(a)} {
			if !ask(x, d.Shuffled(b), list, word, n).Same(want) {
				t.Errorf("P6.7: other answers in another order: %v, %v, %v, %v, %d", x, b, list, word, n)
			}
		}
	}
}

func TestOrderOfListMakesNoDifference(t *testing.T) {
	d := testkit.Draw(rand.New(rand.NewPCG(6, 11)).IntN)
	for range 500 {
		a, _, list, _, n := draw(d)
		for _, call := range []func(api.Auto, []int, int) ([]int, api.Errno){nfa.Post, nfa.Pre} {
			x, e := call(a, list, n)
			y, f := call(a, d.Shuffled(api.Auto{Start: list}).Start, n)
			if !slices.Equal(x, y) || e != f {
				t.Errorf("P6.2: %v: %v in another order", a, list)
			}
		}
	}
}

func TestMemory(t *testing.T) {
	d := testkit.Draw(rand.New(rand.NewPCG(6, 12)).IntN)
	for i := range 1000 {
		a, b, list, word, n := draw(d)
		if i%3 == 0 {
			a, b, list, word, n = d.OddAuto(), d.OddAuto(), d.OddList(), d.OddList(), d.Odd()
		}
		a, sameA := testkit.RoomyAuto(a)
		b, sameB := testkit.RoomyAuto(b)
		list, sameList := testkit.Roomy(list, 0)
		word, sameWord := testkit.Roomy(word, 0)
		wrong := testkit.Memory(
			func() testkit.Answers { return ask(a, b, list, word, n) },
			func() bool { return sameA() && sameB() && sameList() && sameWord() },
		)
		if wrong != "" {
			t.Fatalf("P6.8: %s: %v, %v, %v, %v, %d", wrong, a, b, list, word, n)
		}
	}
}

// TestOdd asks with numbers from all ranges: no call panics, and beside an error stands nothing.
func TestOdd(t *testing.T) {
	d := testkit.Draw(rand.New(rand.NewPCG(6, 14)).IntN)
	good := 0
	for range 50000 {
		a, b, list, word, n := d.OddAuto(), d.OddAuto(), d.OddList(), d.OddList(), d.Odd()
		x := ask(a, b, list, word, n)
		if x.Codes[0] == api.OK {
			good++
			continue
		}
		if !x.Nothing() {
			t.Fatalf("P6.8: an answer beside an error: %v", x)
		}
	}
	if good == 0 {
		t.Errorf("no automaton that may be was drawn")
	}
}
