package trim_test

import (
	"fmt"
	"math/rand/v2"
	"slices"
	"testing"

	"wordset/api"
	"wordset/nfa"
	"wordset/testkit"
	"wordset/trim"
)

func TestExamples(t *testing.T) {
	part := auto(3, []int{0}, []int{2}, 0, 0, 1, 1, 1, 2)
	hold(t, "the first example", auto(5, []int{0}, []int{3}, 0, 0, 1, 1, 1, 3, 0, 1, 2, 4, 0, 3), told{[]int{0, 1, 2, 3}, []int{0, 1, 3, 4}, []int{2, 1, -1, 0, 1}, []int{0, 1, 3}, []int{0, 1}, part, false})
	part = auto(4, []int{0}, []int{3}, 0, 0, 1, 0, 0, 2, 1, 1, 3, 2, 0, 3)
	hold(t, "the later of two states", auto(5, []int{0}, []int{4}, 0, 0, 1, 0, 0, 2, 1, 1, 4, 2, 0, 4), told{[]int{0, 1, 2, 4}, []int{0, 1, 2, 4}, []int{2, 1, 1, -1, 0}, []int{0, 1, 2, 4}, []int{0, 0}, part, false})
	both := auto(3, []int{0, 1}, []int{2}, 0, 1, 2, 1, 0, 2)
	hold(t, "the later of two starts", both, told{[]int{0, 1, 2}, []int{0, 1, 2}, []int{1, 1, 0}, []int{0, 1, 2}, []int{0}, both, false})
	one := auto(1, []int{0}, []int{0})
	hold(t, "a start that is final", one, told{[]int{0}, []int{0}, []int{0}, []int{0}, nil, one, false})
	hold(t, "no state", auto(0, nil, nil), told{empty: true, trim: auto(0, nil, nil)})
	hold(t, "no start", auto(2, nil, []int{1}, 0, 0, 1), told{nil, []int{0, 1}, []int{1, 0}, nil, nil, auto(0, nil, nil), true})
	hold(t, "no final state", auto(2, []int{0}, nil, 0, 0, 1), told{[]int{0, 1}, nil, []int{-1, -1}, nil, nil, auto(0, nil, nil), true})
	hold(t, "a final state that is not reached", auto(2, []int{0}, []int{1}), told{[]int{0}, []int{1}, []int{-1, 0}, nil, nil, auto(0, nil, nil), true})
	loop := auto(1, []int{0}, []int{0}, 0, 0, 0, 0, 1, 0)
	hold(t, "doubles", auto(1, []int{0, 0}, []int{0, 0, 0}, 0, 1, 0, 0, 0, 0, 0, 1, 0), told{[]int{0}, []int{0}, []int{0}, []int{0}, nil, loop, false})
}

func TestEdges(t *testing.T) {
	for name, a := range map[string]api.Auto{
		"nothing at all":                                               {},
		"128 symbols and no state":                                     {Symbols: 128},
		"states and nothing else":                                      {States: 3},
		"a state that is final, not a start":                           auto(2, []int{0}, []int{1}, 1, 0, 0),
		"a loop at a state that leads nowhere":                         auto(2, []int{0}, []int{1}, 0, 0, 0),
		"a loop at a useful state":                                     auto(3, []int{0}, []int{2}, 0, 0, 0, 0, 1, 1, 1, 0, 2),
		"a ring of states":                                             auto(4, []int{2}, []int{1}, 0, 0, 1, 1, 0, 2, 2, 0, 3, 3, 0, 0),
		"a nearer start with greater symbols":                          auto(6, []int{0, 3}, []int{5}, 0, 0, 1, 1, 0, 2, 2, 0, 5, 3, 1, 4, 4, 1, 5),
		"the nearer start first":                                       auto(4, []int{0, 1}, []int{3}, 0, 1, 3, 1, 0, 2, 2, 0, 3),
		"a far start ahead of two near ones":                           auto(4, []int{0, 1, 2}, []int{3}, 0, 0, 1, 1, 1, 3, 2, 0, 3),
		"a least symbol that leads away":                               auto(4, []int{0}, []int{3}, 0, 1, 1, 0, 1, 2, 1, 1, 3, 2, 0, 3, 0, 0, 0),
		"two final states":                                             auto(4, []int{0}, []int{2, 3}, 0, 1, 2, 0, 0, 1, 1, 0, 3),
		"edges among states that are not useful":                       auto(5, []int{1}, []int{3}, 0, 0, 1, 1, 0, 3, 3, 1, 4, 4, 0, 4, 2, 0, 2, 0, 1, 2, 3, 0, 1),
		"an edge between two useful states that no shortest way takes": auto(4, []int{0}, []int{3}, 0, 0, 1, 1, 0, 3, 0, 1, 3, 3, 1, 0),
		"starts and final states in no order":                          auto(4, []int{3, 0, 3}, []int{2, 1, 2, 0}, 3, 1, 2, 3, 0, 1, 0, 1, 1),
	} {
		hold(t, name, a, model(a))
	}
}

func TestEvery(t *testing.T) {
	for _, size := range [][2]int{{0, 0}, {0, 2}, {1, 0}, {2, 0}, {1, 3}, {2, 2}} {
		for a := range testkit.Every(size[0], size[1]) {
			hold(t, fmt.Sprint(a), a, model(a))
		}
	}
}

// TestDrawn tries automata of many sizes, with few edges and with many.
func TestDrawn(t *testing.T) {
	d := testkit.Draw(rand.New(rand.NewPCG(7, 2)).IntN)
	for i := range 3000 {
		a := d.Auto(3+i%8, 3)
		hold(t, fmt.Sprint(a), a, model(a))
	}
	for range 20 {
		a := d.Auto(60, 2)
		hold(t, fmt.Sprint(a), a, model(a))
	}
}

// TestLayers tries automata in which many ways lead on together, and only a look at all of them finds the least word.
func TestLayers(t *testing.T) {
	d := testkit.Draw(rand.New(rand.NewPCG(7, 3)).IntN)
	for range 300 {
		const wide, deep = 4, 8
		a := auto(wide*deep, testkit.Upto(wide), nil)
		for p := range wide {
			a.Final = append(a.Final, wide*(deep-1)+p)
		}
		for range 3 * wide * deep {
			layer := d(deep - 1)
			a.Edges = append(a.Edges, api.Edge{From: layer*wide + d(wide), Sym: d(2), To: (layer+1)*wide + d(wide)})
		}
		hold(t, fmt.Sprint(a), a, model(a))
	}
}

// TestWords holds Empty and Trim against the paths of all short words.
func TestWords(t *testing.T) {
	d := testkit.Draw(rand.New(rand.NewPCG(7, 4)).IntN)
	for range 1500 {
		a := d.Auto(4, 3)
		b, _, _ := trim.Trim(a)
		empty, word, _ := trim.Empty(a)
		least := -1
		for i, w := range testkit.Words(a.Symbols, 4) {
			takes := testkit.Takes(a, w)
			if takes != testkit.Takes(b, w) {
				t.Errorf("P7.6: Trim changes whether %v is a word of %v", w, a)
			}
			if takes && least < 0 {
				least = i
				if empty || !slices.Equal(word, w) {
					t.Errorf("P7.5, P7.6: Empty of %v: %v, %v; the least word is %v", a, empty, word, w)
				}
			}
		}
		if least < 0 && !empty || empty != (b.States == 0) || !empty && len(word) >= b.States {
			t.Errorf("P7.5, P7.6: Empty of %v: %v, %v; Trim has %d states", a, empty, word, b.States)
		}
	}
}

// TestWhatComesOfIt asks what P7.6 says of answers beside each other.
func TestWhatComesOfIt(t *testing.T) {
	d := testkit.Draw(rand.New(rand.NewPCG(7, 5)).IntN)
	for i := range 1500 {
		a := d.Auto(2+i%20, 3)
		b, old, _ := trim.Trim(a)
		all := testkit.Upto(b.States)
		again, same, e := trim.Trim(b)
		if e != api.OK || !testkit.SameAuto(again, b) || !slices.Equal(same, all) || len(old) != b.States {
			t.Errorf("P7.6: Trim of %v: %v, %v", b, again, same)
		}
		reach, _ := trim.Reach(b)
		coreach, _ := trim.Coreach(b)
		if !slices.Equal(reach, all) || !slices.Equal(coreach, all) {
			t.Errorf("P7.6: of Trim's states %v are reached, %v co-reached: %v", reach, coreach, b)
		}
		if empty, word, _ := trim.Empty(a); !empty {
			if yes, e := nfa.Accepts(a, word); !yes || e != api.OK || len(word) >= b.States {
				t.Errorf("P7.6: Empty of %v: %v", a, word)
			}
		}
		dist, _ := trim.Dist(a)
		for p := range a.States {
			if want := distBySuccessors(a, dist, p); dist[p] != want {
				t.Errorf("P7.6: Dist of %v: %v at %d; by the successors it should be %d", a, dist, p, want)
			}
		}
	}
}

func distBySuccessors(a api.Auto, dist []int, p int) int {
	if slices.Contains(a.Final, p) {
		return 0
	}
	least := -1
	for _, e := range a.Edges {
		if n := dist[e.To]; e.From == p && n >= 0 && (least < 0 || n+1 < least) {
			least = n + 1
		}
	}
	return least
}

func TestOrderMakesNoDifference(t *testing.T) {
	d := testkit.Draw(rand.New(rand.NewPCG(7, 6)).IntN)
	for range 1000 {
		a := d.Auto(6, 3)
		if b := d.Shuffled(a); !ask(b).Same(ask(testkit.InOrder(a))) {
			t.Errorf("P7.2 to P7.5: other answers in another order: %v", b)
		}
	}
}
