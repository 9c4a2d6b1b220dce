package build_test

import (
	"fmt"
	"math/rand/v2"
	"slices"
	"testing"

	"wordset/api"
	"wordset/build"
	"wordset/testkit"
)

const length = 4 // of the words that are looked at

// inRow tells whether a word is a word of x with one of y behind it.
func inRow(x, y language, w []int) bool {
	for i := range len(w) + 1 {
		if x.has(w[:i]) && y.has(w[i:]) {
			return true
		}
	}
	return false
}

// repeated tells whether a word is empty, or words of x one behind the other.
func repeated(x language, w []int) bool {
	for i := 1; i <= len(w); i++ {
		if x.has(w[:i]) && repeated(x, w[i:]) {
			return true
		}
	}
	return len(w) == 0
}

// parted tells whether a word's places can be parted into a word of x and one of y.
func parted(x, y language, w []int) bool {
	for among := range 1 << len(w) {
		var first, second []int
		for i, k := range w {
			if among>>i&1 == 1 {
				first = append(first, k)
			} else {
				second = append(second, k)
			}
		}
		if x.has(first) && y.has(second) {
			return true
		}
	}
	return false
}

// TestWords: an automaton of at most three states ends any word that it can end by at most two symbols more.
func TestWords(t *testing.T) {
	d := testkit.Draw(rand.New(rand.NewPCG(8, 3)).IntN)
	must := sure(t)
	for range 300 {
		a, b, w := two(d, 3)
		x, y := languageOf(a, length+3), languageOf(b, length)
		more := testkit.Words(a.Symbols, 2)
		of := fmt.Sprintf(" of %v, %v, %v", a, b, w)
		wantWords(t, "P8.9: Union"+of, must(build.Union(a, b)), length, func(u []int) bool { return x.has(u) || y.has(u) })
		wantWords(t, "P8.9: Concat"+of, must(build.Concat(a, b)), length, func(u []int) bool { return inRow(x, y, u) })
		wantWords(t, "P8.9: Star"+of, must(build.Star(a)), length, func(u []int) bool { return repeated(x, u) })
		meet, _, e := build.Meet(a, b, 0)
		wantWords(t, "P8.9: Meet"+of, must(meet, e), length, func(u []int) bool { return x.has(u) && y.has(u) })
		shuffle, _, e := build.Shuffle(a, b, 0)
		wantWords(t, "P8.9: Shuffle"+of, must(shuffle, e), length, func(u []int) bool { return parted(x, y, u) })
		wantWords(t, "P8.9: Prefixes"+of, must(build.Prefixes(a)), length, func(u []int) bool {
			return slices.ContainsFunc(more, func(v []int) bool { return x.has(slices.Concat(u, v)) })
		})
		wantWords(t, "P8.9: Suffixes"+of, must(build.Suffixes(a)), length, func(u []int) bool {
			return slices.ContainsFunc(more, func(v []int) bool { return x.has(slices.Concat(v, u)) })
		})
		wantWords(t, "P8.9: Left"+of, must(build.Left(w, a)), length, func(u []int) bool { return x.has(slices.Concat(w, u)) })
		wantWords(t, "P8.9: Right"+of, must(build.Right(a, w)), length, func(u []int) bool { return x.has(slices.Concat(u, w)) })
		wantWords(t, "P8.9: One"+of, must(build.One(w, a.Symbols)), length, func(u []int) bool { return slices.Equal(u, w) })
		wantWords(t, "P8.9: All", must(build.All(a.Symbols)), length, func([]int) bool { return true })
		wantWords(t, "P8.9: None", must(build.None(a.Symbols)), length, func([]int) bool { return false })
	}
}

func TestTogether(t *testing.T) {
	d := testkit.Draw(rand.New(rand.NewPCG(8, 4)).IntN)
	must := sure(t)
	for range 300 {
		a, b, w := two(d, 4)
		v := d.List(a.Symbols, d(3))
		behind := must(build.Concat(must(build.One(w, a.Symbols)), a))
		wantSameWords(t, "P8.10: Left of Concat", must(build.Left(w, behind)), a, length)
		c, e := build.Left(v, must(build.Left(w, a)))
		wantAuto(t, "P8.10: Left of Left", c, e, must(build.Left(slices.Concat(w, v), a)))
		wantSameWords(t, "P8.10: Union the other way round", must(build.Union(a, b)), must(build.Union(b, a)), length)
		meet, _, e := build.Meet(a, b, 0)
		other, _, f := build.Meet(b, a, 0)
		wantSameWords(t, "P8.10: Meet the other way round", must(meet, e), must(other, f), length)
		star := must(build.Star(a))
		wantSameWords(t, "P8.10: Star of Star", must(build.Star(star)), star, length)
		meet, _, e = build.Meet(a, must(build.All(a.Symbols)), 0)
		wantSameWords(t, "P8.10: Meet with All", must(meet, e), a, length)
		none := must(build.None(a.Symbols))
		c, e = build.Union(a, none)
		wantAuto(t, "P8.10: Union with None", c, e, testkit.InOrder(a))
		c, e = build.Union(none, a)
		wantAuto(t, "P8.10: Union of None", c, e, testkit.InOrder(a))
	}
}

// TestLongWords: a word may be longer than any automaton's own.
func TestLongWords(t *testing.T) {
	ring := api.Auto{States: 3, Symbols: 1, Start: []int{0}, Final: []int{0}, Edges: []api.Edge{{From: 0, To: 1}, {From: 1, To: 2}, {From: 2, To: 0}}}
	w := make([]int, 100000)
	want := ring
	want.Start = []int{1}
	c, e := build.Left(w, ring)
	wantAuto(t, "P8.7: Left by a long word", c, e, want)
	want.Start, want.Final = []int{0}, []int{2}
	c, e = build.Right(ring, w)
	wantAuto(t, "P8.7: Right by a long word", c, e, want)
}
