package testkit_test

import (
	"math/rand/v2"
	"slices"
	"testing"

	"wordset/api"
	"wordset/testkit"
)

func TestBits(t *testing.T) {
	if testkit.Bits(nil) != 0 || testkit.Bits([]int{3, 0, 3}) != 9 || testkit.Bits([]int{63}) != 1<<63 {
		t.Errorf("Bits")
	}
	a := testkit.Auto(3, 2, nil, nil, 0, 0, 1, 0, 0, 2, 1, 0, 2, 2, 1, 0)
	if testkit.PostBits(a, 1, 0) != 6 || testkit.PostBits(a, 6, 0) != 4 || testkit.PostBits(a, 7, 1) != 1 || testkit.PostBits(a, 0, 0) != 0 {
		t.Errorf("PostBits")
	}
}

// TestReads: it tells of every short word what the paths tell.
func TestReads(t *testing.T) {
	d := testkit.Draw(rand.New(rand.NewPCG(0, 3)).IntN)
	for range 200 {
		a := d.Auto(4, 2)
		b := testkit.OneWay(a)
		for _, w := range testkit.Words(a.Symbols, 5) {
			if want := testkit.Takes(a, w); testkit.Reads(a, w) != want || testkit.Takes(b, w) != want {
				t.Fatalf("Reads, OneWay: %v, %v", a, w)
			}
		}
		if len(b.Edges) != b.States*b.Symbols || len(b.Start) != 1 {
			t.Fatalf("OneWay: %v", b)
		}
	}
}

func TestShortest(t *testing.T) {
	a, b := testkit.Circle(2, []int{0}), testkit.Circle(3, []int{0, 2})
	differ := func(x, y bool) bool { return x != y }
	if n := testkit.Shortest(a, b, differ); n != 3 {
		t.Errorf("Shortest: %d", n)
	}
	if n := testkit.Shortest(a, b, func(x, y bool) bool { return x && !y }); n != 4 {
		t.Errorf("Shortest: %d", n)
	}
	if n := testkit.Shortest(a, b, func(x, y bool) bool { return !x && !y }); n != 1 {
		t.Errorf("Shortest: %d", n)
	}
	if n := testkit.Shortest(a, testkit.Circle(4, []int{0, 2}), differ); n != -1 {
		t.Errorf("Shortest: %d", n)
	}
}

func TestSameFound(t *testing.T) {
	f := api.Found{Yes: true, Has: true, Word: []int{1}, Side: 1, Pairs: 2}
	for _, g := range []api.Found{{Has: true, Word: f.Word, Side: 1, Pairs: 2}, {Yes: true, Word: f.Word, Side: 1, Pairs: 2}, {Yes: true, Has: true, Side: 1, Pairs: 2}, {Yes: true, Has: true, Word: f.Word, Pairs: 2}, {Yes: true, Has: true, Word: f.Word, Side: 1}} {
		if testkit.SameFound(f, g) || !testkit.SameFound(g, g) {
			t.Errorf("SameFound: %v", g)
		}
	}
	if !testkit.SameFound(api.Found{Word: []int{}}, api.Found{}) {
		t.Errorf("SameFound of an empty word")
	}
}

// TestShapes: each of the automata that are made for a purpose, by hand.
func TestShapes(t *testing.T) {
	for i, c := range []struct{ got, want api.Auto }{
		{testkit.Crowd(2, 3), testkit.Auto(2, 1, []int{0, 1}, []int{0, 1}, 0, 0, 0, 0, 0, 1, 1, 0, 0)},
		{testkit.Chain(3), testkit.Auto(3, 1, []int{0}, []int{2}, 0, 0, 1, 1, 0, 2)},
		{testkit.Circle(3, []int{1}), testkit.Auto(3, 1, []int{0}, []int{1}, 0, 0, 1, 1, 0, 2, 2, 0, 0)},
		{testkit.Letter(3), testkit.Auto(3, 2, []int{0}, []int{2}, 0, 0, 0, 0, 1, 0, 0, 1, 1, 1, 0, 2, 1, 1, 2)},
	} {
		if !testkit.SameAuto(c.got, c.want) {
			t.Errorf("shape %d: %v", i, c.got)
		}
	}
}

// TestTwo: what is drawn is of the kind that is told of it.
func TestTwo(t *testing.T) {
	d := testkit.Draw(rand.New(rand.NewPCG(0, 4)).IntN)
	var alike, other, long int
	for range 300 {
		a, b := d.Two(4, 2)
		if a.Symbols != b.Symbols || a.States > 4 || b.States > 4 || a.Symbols > 2 {
			t.Fatalf("Two: %v, %v", a, b)
		}
		c := d.Renumbered(a)
		for _, w := range testkit.Words(a.Symbols, 4) {
			if testkit.Takes(a, w) != testkit.Takes(c, w) {
				t.Fatalf("Renumbered: %v, %v, %v", a, c, w)
			}
		}
		if a, b = d.Related(4, 2); testkit.Shortest(a, b, func(x, y bool) bool { return y && !x }) >= 0 {
			t.Fatalf("Related: %v, %v", a, b)
		}
		if testkit.Shortest(a, b, func(x, y bool) bool { return x != y }) < 0 {
			alike++
		} else {
			other++
		}
		a, b = d.Hidden(3, 6)
		if a.States != 3 || b.States != 6 || len(a.Final) == 0 || slices.Contains(b.Final, 6) {
			t.Fatalf("Hidden: %v, %v", a, b)
		}
		if testkit.Shortest(a, b, func(x, y bool) bool { return x && !y }) > 2 {
			long++
		}
	}
	if alike < 100 || other < 20 || long < 20 {
		t.Errorf("Related, Hidden: %d, %d, %d", alike, other, long)
	}
}
