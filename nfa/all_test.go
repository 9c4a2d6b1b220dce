package nfa_test

import (
	"math/rand/v2"
	"reflect"
	"slices"
	"testing"

	"wordset/api"
	"wordset/nfa"
	"wordset/testkit"
)

// answers holds what all calls answer to arguments, the lists of each call apart.
type answers struct {
	codes  []api.Errno
	truths []bool
	lists  [][]int
	autos  []api.Auto
}

func (x *answers) list(l []int, e api.Errno) {
	x.lists, x.codes = append(x.lists, l), append(x.codes, e)
}

func (x *answers) truth(yes bool, e api.Errno) {
	x.truths, x.codes = append(x.truths, yes), append(x.codes, e)
}

func (x *answers) auto(a api.Auto, e api.Errno) {
	x.autos, x.codes = append(x.autos, a), append(x.codes, e)
}

// ask asks all calls.
func ask(a, b api.Auto, list, word []int, n int) answers {
	var x answers
	x.truth(false, nfa.Valid(a))
	x.auto(nfa.Normal(a))
	x.truth(nfa.Same(a, b), api.OK)
	x.list(nfa.Post(a, list, n))
	x.list(nfa.Pre(a, list, n))
	x.list(nfa.After(a, word))
	x.truth(nfa.Accepts(a, word))
	x.truth(nfa.Runs(a, list, word))
	x.list(nfa.Path(a, word))
	x.auto(nfa.Reverse(a))
	x.auto(nfa.Union(a, b))
	x.auto(nfa.Widen(a, n, list))
	return x
}

// same compares answers; empty lists may be nil.
func (x answers) same(y answers) bool {
	return slices.Equal(x.codes, y.codes) && slices.Equal(x.truths, y.truths) &&
		slices.EqualFunc(x.lists, y.lists, slices.Equal[[]int]) && slices.EqualFunc(x.autos, y.autos, testkit.SameAuto)
}

// draw draws arguments of all calls, most of them such that may be.
func draw(d testkit.Draw) (a, b api.Auto, list, word []int, n int) {
	a, b = d.Auto(4, 3), d.Auto(4, 3)
	if d(3) == 0 {
		b = d.Shuffled(a)
	}
	return a, b, d.List(a.States, d(5)), d.List(a.Symbols, d(5)), d(5)
}

func TestNormalChangesNothing(t *testing.T) {
	d := testkit.Draw(rand.New(rand.NewPCG(6, 10)).IntN)
	for range 2000 {
		a, b, list, word, n := draw(d)
		want := ask(testkit.InOrder(a), testkit.InOrder(b), list, word, n)
		for _, x := range []api.Auto{a, d.Shuffled(a)} {
			if !ask(x, d.Shuffled(b), list, word, n).same(want) {
				t.Errorf("P6.7: other answers in another order: %v, %v, %v, %v, %d", x, b, list, word, n)
			}
		}
	}
}

func TestOrderOfListMakesNoDifference(t *testing.T) {
	d := testkit.Draw(rand.New(rand.NewPCG(6, 11)).IntN)
	for range 500 {
		a, _, list, _, n := draw(d)
		for _, call := range []func(api.Auto, []int, int) ([]int, api.Errno){nfa.Post, nfa.Pre} {
			x, e := call(a, list, n)
			y, f := call(a, d.Shuffled(api.Auto{Start: list}).Start, n)
			if !slices.Equal(x, y) || e != f {
				t.Errorf("P6.2: %v: %v in another order", a, list)
			}
		}
	}
}

func TestHandedIn(t *testing.T) {
	d := testkit.Draw(rand.New(rand.NewPCG(6, 12)).IntN)
	for i := range 1000 {
		a, b, list, word, n := draw(d)
		if i%3 == 0 {
			a, b, list, word, n = d.OddAuto(), d.OddAuto(), d.OddList(), d.OddList(), d.Odd()
		}
		a, sameA := testkit.RoomyAuto(a)
		b, sameB := testkit.RoomyAuto(b)
		list, sameList := testkit.Roomy(list, 0)
		word, sameWord := testkit.Roomy(word, 0)
		x := ask(a, b, list, word, n)
		if !sameA() || !sameB() || !sameList() || !sameWord() {
			t.Fatalf("P6.8: what was handed in has changed: %v, %v, %v, %v", a, b, list, word)
		}
		y := ask(a, b, list, word, n)
		for _, l := range x.lists {
			testkit.Scribble(l, -5)
		}
		for _, made := range x.autos {
			if !testkit.ScribbleAuto(made) {
				t.Errorf("P6.8: two lists of an answer share memory")
			}
		}
		if !sameA() || !sameB() || !sameList() || !sameWord() {
			t.Fatalf("P6.8: an answer shares memory with what was handed in: %v, %v, %v, %v", a, b, list, word)
		}
		if !y.same(ask(a, b, list, word, n)) {
			t.Fatalf("P6.8: two answers share memory: %v, %v, %v, %v", a, b, list, word)
		}
	}
}

func TestListsInTurn(t *testing.T) {
	d := testkit.Draw(rand.New(rand.NewPCG(6, 13)).IntN)
	for range 300 {
		a, b, list, word, n := draw(d)
		x, want := ask(a, b, list, word, n), ask(a, b, list, word, n)
		for i := range x.lists {
			testkit.Scribble(x.lists[i], -5)
			x.lists[i] = want.lists[i]
			if !x.same(want) {
				t.Fatalf("P6.8: the list %d shares memory with another answer", i)
			}
		}
		for i := range x.autos {
			testkit.ScribbleAuto(x.autos[i])
			x.autos[i] = want.autos[i]
			if !x.same(want) {
				t.Fatalf("P6.8: the automaton %d shares memory with another answer", i)
			}
		}
	}
}

// TestOdd asks with numbers from all ranges: no call panics, and beside an error stands nothing.
func TestOdd(t *testing.T) {
	d := testkit.Draw(rand.New(rand.NewPCG(6, 14)).IntN)
	good := 0
	for range 50000 {
		a, b, list, word, n := d.OddAuto(), d.OddAuto(), d.OddList(), d.OddList(), d.Odd()
		x := ask(a, b, list, word, n)
		if x.codes[0] == api.OK {
			good++
			continue
		}
		if !reflect.DeepEqual(x.lists, make([][]int, len(x.lists))) || slices.Contains(x.truths, true) || !reflect.DeepEqual(x.autos, make([]api.Auto, len(x.autos))) {
			t.Fatalf("P6.8: an answer beside an error: %v", x)
		}
	}
	if good == 0 {
		t.Errorf("no automaton that may be was drawn")
	}
}
