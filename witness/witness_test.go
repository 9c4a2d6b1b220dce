package witness_test

import (
	"math/rand/v2"
	"slices"
	"testing"

	"wordset/api"
	"wordset/nfa"
	"wordset/testkit"
	"wordset/witness"
)

// x takes the word 0 alone, y the words 0 and 1.
func x() api.Auto { return testkit.Auto(2, 2, []int{0}, []int{1}, 0, 0, 1) }

func y() api.Auto { return testkit.Auto(2, 2, []int{0}, []int{1}, 0, 0, 1, 0, 1, 1) }

func TestExamplesOfWord(t *testing.T) {
	links := []api.Link{{Parent: -1, Sym: -1}, {Parent: 0, Sym: 1}, {Parent: 1, Sym: 0}}
	wantWord(t, links, 2, []int{1, 0}, api.OK)
	wantWord(t, links, 1, []int{1}, api.OK)
	wantWord(t, links, 0, nil, api.OK)
	wantWord(t, links, 3, nil, api.ErrRange)
	wantWord(t, []api.Link{{Parent: 0, Sym: 0}}, 0, nil, api.ErrLinks)
	wantWord(t, []api.Link{{Parent: -1, Sym: 0}}, 0, nil, api.ErrLinks)
	wantWord(t, []api.Link{{Parent: -1, Sym: -1}, {Parent: 1, Sym: 0}}, 0, nil, api.ErrLinks)
}

// TestEveryTree: all lists of up to three links whose numbers are in range and just outside it, at all places and just outside them.
func TestEveryTree(t *testing.T) {
	lists := [][]api.Link{nil}
	for from, round := 0, 0; round < 3; round++ {
		end := len(lists)
		for _, list := range lists[from:end] {
			for parent := -2; parent < 4; parent++ {
				for sym := -2; sym < 2; sym++ {
					lists = append(lists, append(slices.Clone(list), api.Link{Parent: parent, Sym: sym}))
				}
			}
		}
		from = end
	}
	trees := 0
	for _, links := range lists {
		words := wordsOf(links)
		if words != nil {
			trees++
		}
		for at := -2; at < 5; at++ {
			switch {
			case words == nil:
				wantWord(t, links, at, nil, api.ErrLinks)
			case at < 0 || at >= len(links):
				wantWord(t, links, at, nil, api.ErrRange)
			default:
				wantWord(t, links, at, words[at], api.OK)
			}
		}
	}
	if trees != 1+1+1*3+1*3*5 {
		t.Errorf("P17.1: %d lists were trees", trees)
	}
}

// wordsOf says the words of all links, from the first on; nil: they are no tree.
func wordsOf(links []api.Link) [][]int {
	words := [][]int{}
	for n, link := range links {
		switch {
		case link.Parent == -1 && link.Sym == -1:
			words = append(words, nil)
		case link.Parent >= 0 && link.Parent < n && link.Sym >= 0:
			words = append(words, append(slices.Clone(words[link.Parent]), link.Sym))
		default:
			return nil
		}
	}
	return words
}

// TestForest: several roots; symbols may be any numbers from 0 on, and what is wrong is told wherever it stands.
func TestForest(t *testing.T) {
	root := api.Link{Parent: -1, Sym: -1}
	links := []api.Link{root, {Parent: 0, Sym: greatest}, root, {Parent: 2, Sym: 5}, {Parent: 1, Sym: 1 << 40}, {Parent: 3, Sym: 5}}
	for at, w := range wordsOf(links) {
		wantWord(t, links, at, w, api.OK)
	}
	for _, bad := range []api.Link{{Parent: lowest, Sym: lowest}, {Parent: -1, Sym: lowest}, {Parent: -2, Sym: -1}, {Parent: 0, Sym: -1}, {Parent: 0, Sym: lowest}, {Parent: greatest, Sym: 0}} {
		for n := range links {
			wrong := slices.Clone(links)
			wrong[n] = bad
			for _, at := range []int{0, n, 5, 6, -1, lowest, greatest} {
				wantWord(t, wrong, at, nil, api.ErrLinks)
			}
		}
	}
	for _, at := range []int{lowest, -1, 6, greatest} {
		wantWord(t, links, at, nil, api.ErrRange)
		wantWord(t, nil, at, nil, api.ErrRange)
	}
	wantWord(t, nil, 0, nil, api.ErrRange)
}

func TestDrawnTrees(t *testing.T) {
	d := testkit.Draw(rand.New(rand.NewPCG(17, 1)).IntN)
	for range 300 {
		var links []api.Link
		for n := range 1 + d(40) {
			link := api.Link{Parent: -1, Sym: -1}
			if n > 0 && d(10) > 0 {
				link = api.Link{Parent: max(d(n), d(n)), Sym: d(3)}
			}
			links = append(links, link)
		}
		for at, w := range wordsOf(links) {
			wantWord(t, links, at, w, api.OK)
		}
	}
}

func TestExamplesOfShows(t *testing.T) {
	wantShows(t, 2, y(), x(), []int{1}, true, 1, api.OK)
	wantShows(t, 2, x(), y(), []int{1}, false, 0, api.OK)
	wantShows(t, 3, x(), y(), []int{1}, true, 2, api.OK)
	wantShows(t, -1, x(), y(), []int{1}, true, 2, api.OK)
	wantShows(t, 0, x(), y(), []int{0}, true, 0, api.OK)
	wantShows(t, 1, x(), y(), nil, true, 0, api.OK)
	wantShows(t, 4, x(), y(), []int{1}, false, 0, api.OK)
	wantShows(t, 3, y(), x(), []int{1}, true, 1, api.OK)
	wantShows(t, 3, y(), x(), []int{0}, false, 0, api.OK)
}

// queriesLike gives numbers that count as a query from 0 to 3.
func queriesLike(query int) []int {
	return []int{query, query + 4, query - 4, query - 400, query + 1<<40, lowest + query, greatest - 3 + query}
}

func TestEveryShown(t *testing.T) {
	shown := [4]int{}
	for _, c := range []struct{ first, second, symbols int }{{0, 0, 1}, {1, 0, 1}, {0, 1, 1}, {1, 1, 2}, {2, 1, 1}, {1, 2, 1}} {
		for a := range testkit.Every(c.first, c.symbols) {
			for b := range testkit.Every(c.second, c.symbols) {
				for _, w := range testkit.Words(c.symbols, 3) {
					for query := range 4 {
						is, side := noOf(query, testkit.Takes(a, w), testkit.Takes(b, w))
						for _, q := range queriesLike(query)[:3] {
							wantShows(t, q, a, b, w, is, side, api.OK)
						}
						shown[query] += side
						if is {
							shown[query]++
						}
					}
				}
			}
		}
	}
	if slices.Contains(shown[:], 0) {
		t.Errorf("P17.2: shown were %v", shown)
	}
}

func TestQueryCountsModuloFour(t *testing.T) {
	d := testkit.Draw(rand.New(rand.NewPCG(17, 2)).IntN)
	for range 200 {
		a, b := d.Two(5, 2)
		w := d.List(a.Symbols, d(4))
		for query := range 4 {
			is, side := noOf(query, testkit.Takes(a, w), testkit.Takes(b, w))
			want := byPairs(query, a, b, -1)
			for _, q := range queriesLike(query) {
				wantShows(t, q, a, b, w, is, side, api.OK)
				wantBudgets(t, q, a, b, -1, want)
			}
		}
	}
}

func TestExamplesOfLeast(t *testing.T) {
	wantLeast(t, 2, y(), x(), -1, 0, []int{1}, api.OK)
	wantLeast(t, 2, x(), y(), -1, 0, nil, api.ErrNone)
	wantLeast(t, 1, x(), y(), 0, 0, nil, api.OK)
	wantLeast(t, 2, y(), x(), 0, 0, nil, api.ErrNone)
	wantLeast(t, 2, y(), x(), -1, 2, nil, api.ErrBudget)
	wantLeast(t, 2, y(), x(), -1, 3, []int{1}, api.OK)
	wantLeast(t, 3, x(), y(), 5, 0, []int{1}, api.OK)
}

// TestPairsOfBoth: of every query, those that ask the first automaton alone too, pairs count by what words lead to in both.
func TestPairsOfBoth(t *testing.T) {
	a, b := testkit.Circle(1, nil), testkit.Circle(3, nil)
	for _, query := range []int{0, 2, 3} {
		wantBudgets(t, query, a, b, -1, least{none: true, pairs: 3})
		wantBudgets(t, query, a, b, 1, least{none: true, pairs: 2})
		wantBudgets(t, query, b, a, -1, least{none: true, pairs: 3})
		wantBudgets(t, query, a, a, -1, least{none: true, pairs: 1})
	}
	a.Final, b.Final = []int{0}, testkit.Upto(3)
	for _, query := range []int{1, 2, 3} {
		wantBudgets(t, query, a, b, -1, least{none: true, pairs: 3})
		wantBudgets(t, query, b, a, 0, least{none: true, pairs: 1})
	}
}

// TestEmptySetsCount: words that lead to no state at all lead to a pair like any other, and that all states are useless makes no difference to what counts.
func TestEmptySetsCount(t *testing.T) {
	chain, none := testkit.Chain(3), testkit.Auto(0, 1, nil, nil)
	chain.Final = nil
	wantBudgets(t, 0, chain, none, -1, least{none: true, pairs: 4})
	wantBudgets(t, 2, none, chain, -1, least{none: true, pairs: 4})
	wantBudgets(t, 0, chain, none, 2, least{none: true, pairs: 3})
	wantBudgets(t, 0, none, none, -1, least{none: true, pairs: 1})
	wantBudgets(t, 1, none, none, -1, least{pairs: 1})
	wantBudgets(t, 0, api.Auto{}, api.Auto{}, -1, least{none: true, pairs: 1})
	wantBudgets(t, 1, api.Auto{}, api.Auto{}, 0, least{pairs: 1})
}

// TestLengthOrder: a shorter word goes ahead of one with lesser symbols, then lesser symbols count from the left.
func TestLengthOrder(t *testing.T) {
	none := testkit.Auto(0, 3, nil, nil)
	a := testkit.Auto(6, 3, []int{0}, []int{5}, 0, 2, 1, 0, 1, 2, 2, 2, 3, 1, 0, 4, 3, 0, 5, 4, 1, 5)
	wantBudgets(t, 0, a, none, -1, byPairs(0, a, none, -1))
	wantLeast(t, 0, a, none, -1, 0, []int{1, 2, 0}, api.OK)
	wantLeast(t, 2, a, none, 3, 0, []int{1, 2, 0}, api.OK)
	wantLeast(t, 3, none, a, 2, 0, nil, api.ErrNone)
	a.Final = []int{1, 5}
	wantLeast(t, 3, none, a, -1, 0, []int{2}, api.OK)
	a.Final = []int{3, 4}
	wantLeast(t, 3, none, a, -1, 0, []int{1, 2}, api.OK)
}

// TestWordsThatAreTooLong: pairs to which only longer words lead do not count, and what they show is not told.
func TestWordsThatAreTooLong(t *testing.T) {
	a, none := testkit.Chain(6), testkit.Auto(0, 1, nil, nil)
	for most := range 5 {
		wantBudgets(t, 0, a, none, most, least{none: true, pairs: most + 1})
	}
	for _, most := range []int{5, 6, greatest, -1, lowest} {
		wantBudgets(t, 0, a, none, most, least{word: make([]int, 5), pairs: 6})
	}
}

// seen counts what was held, so that a test can tell whether it has seen enough.
type seen struct{ found, none, long, many int }

// hold holds Least against the model for words of any length and for bounds around that of the least, and looks at what comes of it.
func (n *seen) hold(t *testing.T, a, b api.Auto) {
	t.Helper()
	for query := range 4 {
		want := byPairs(query, a, b, -1)
		wantBudgets(t, query, a, b, -1, want)
		for _, most := range []int{0, 1, 2, len(want.word) - 1, len(want.word), len(want.word) + 1, lowest, greatest} {
			wantBudgets(t, query, a, b, most, byPairs(query, a, b, most))
		}
		n.count(want)
		if want.none {
			continue
		}
		is, side := noOf(query, testkit.Reads(a, want.word), testkit.Reads(b, want.word))
		if !is {
			t.Fatalf("P17.8: query %d to %v and %v: the word %v does not show the no", query, a, b, want.word)
		}
		wantShows(t, query, a, b, want.word, true, side, api.OK)
	}
}

func (n *seen) count(l least) {
	if l.none {
		n.none++
	} else {
		n.found++
	}
	if len(l.word) > 3 {
		n.long++
	}
	if l.pairs > 10 {
		n.many++
	}
}

// TestEveryWord: by all words up to some length, as the chapter says it.
func TestEveryWord(t *testing.T) {
	for _, c := range []struct{ first, second, symbols, most int }{{0, 0, 0, 2}, {0, 0, 1, 2}, {1, 0, 1, 3}, {0, 1, 1, 3}, {1, 1, 0, 2}, {1, 1, 1, 3}, {1, 1, 2, 2}, {2, 0, 1, 3}, {2, 1, 1, 3}, {1, 2, 1, 3}} {
		for a := range testkit.Every(c.first, c.symbols) {
			for b := range testkit.Every(c.second, c.symbols) {
				for query := range 4 {
					for most := range c.most + 1 {
						wantBudgets(t, query, a, b, most, byWords(query, a, b, most))
					}
				}
			}
		}
	}
	d := testkit.Draw(rand.New(rand.NewPCG(17, 3)).IntN)
	for range 200 {
		a, b := d.Related(4, 2)
		for query := range 4 {
			for most := range 5 {
				wantBudgets(t, query, a, b, most, byWords(query, a, b, most))
			}
		}
	}
}

func TestEvery(t *testing.T) {
	var n seen
	for _, c := range []struct{ first, second, symbols int }{{0, 1, 1}, {1, 0, 1}, {2, 0, 1}, {0, 2, 1}, {1, 1, 0}, {1, 1, 1}, {1, 1, 2}, {1, 2, 1}, {2, 1, 1}, {2, 2, 0}} {
		for a := range testkit.Every(c.first, c.symbols) {
			for b := range testkit.Every(c.second, c.symbols) {
				n.hold(t, a, b)
			}
		}
	}
	if n.found == 0 || n.none == 0 {
		t.Errorf("held were %+v", n)
	}
}

func TestDrawn(t *testing.T) {
	d := testkit.Draw(rand.New(rand.NewPCG(17, 4)).IntN)
	var n seen
	for range 400 {
		a, b := d.Two(6, 3)
		n.hold(t, a, b)
		a, b = d.Related(5, 2)
		n.hold(t, a, b)
		n.hold(t, b, a)
		a, b = d.Hidden(1+d(3), 4+d(6))
		n.hold(t, a, b)
		n.hold(t, b, a)
	}
	if n.found < 500 || n.none < 500 || n.long < 40 || n.many < 500 {
		t.Errorf("held were %+v", n)
	}
}

// TestMostOfAWord: with most at the length of a word that shows the no there is one, and no lesser one than that.
func TestMostOfAWord(t *testing.T) {
	d := testkit.Draw(rand.New(rand.NewPCG(17, 5)).IntN)
	held := 0
	for range 2000 {
		a, b := d.Related(6, 3)
		w := d.List(a.Symbols, d(8))
		query := d(4)
		is, _, e := witness.Shows(query, a, b, w)
		if e != api.OK || !is {
			continue
		}
		held++
		v, e := witness.Least(query, a, b, len(w), 0)
		if e != api.OK || testkit.LengthOrder(v, w) > 0 {
			t.Fatalf("P17.8: query %d to %v and %v: %v shows the no; the least word is %v, %d", query, a, b, w, v, e)
		}
		if is, _ := noOf(query, testkit.Reads(a, v), testkit.Reads(b, v)); !is {
			t.Fatalf("P17.8: query %d to %v and %v: %v does not show the no", query, a, b, v)
		}
	}
	if held < 300 {
		t.Errorf("P17.8: only %d words were held", held)
	}
}

func TestExampleOfSets(t *testing.T) {
	wantSets(t, x(), []int{0, 1}, [][]int{{0}, {1}, nil}, api.OK)
	wantSets(t, x(), nil, [][]int{{0}}, api.OK)
	wantSets(t, api.Auto{}, nil, [][]int{nil}, api.OK)
	wantSets(t, testkit.Auto(0, 1, nil, nil), []int{0, 0}, [][]int{nil, nil, nil}, api.OK)
}

// ends says to which states a word leads: the last ones of its tracks.
func ends(a api.Auto, w []int) []int {
	var list []int
	for _, track := range testkit.Tracks(a, w) {
		list = append(list, track[len(w)])
	}
	slices.Sort(list)
	return slices.Compact(list)
}

func holdSets(t *testing.T, a api.Auto, w []int) {
	t.Helper()
	var want [][]int
	for n := range len(w) + 1 {
		want = append(want, ends(a, w[:n]))
	}
	wantSets(t, a, w, want, api.OK)
}

func TestEverySet(t *testing.T) {
	for _, c := range []struct{ states, symbols, most int }{{0, 2, 2}, {1, 0, 2}, {1, 2, 3}, {2, 1, 3}, {2, 2, 2}} {
		for a := range testkit.Every(c.states, c.symbols) {
			for _, w := range testkit.Words(c.symbols, c.most) {
				if len(w) == c.most || c.symbols == 0 {
					holdSets(t, a, w)
				}
			}
		}
	}
}

// TestSingleSteps: each set is nfa.Post of the one ahead, the last one nfa.After, and it has a final state just if the word is taken.
func TestSingleSteps(t *testing.T) {
	d := testkit.Draw(rand.New(rand.NewPCG(17, 6)).IntN)
	taken := 0
	for range 1000 {
		a := d.Auto(20, 4)
		if d(2) == 0 && a.States > 0 {
			a.Start, a.Final = d.List(a.States, 6), d.List(a.States, 6)
		}
		w := d.List(a.Symbols, d(5))
		sets, e := witness.Sets(a, w)
		if e != api.OK || len(sets) != len(w)+1 {
			t.Fatalf("P17.4: Sets(%v, %v): %v, %d", a, w, sets, e)
		}
		for i, k := range w {
			if next, e := nfa.Post(a, sets[i], k); e != api.OK || !slices.Equal(next, sets[i+1]) {
				t.Fatalf("P17.9: Sets(%v, %v): %v: at %d stands another than %v", a, w, sets, i+1, next)
			}
		}
		last := sets[len(w)]
		if after, e := nfa.After(a, w); e != api.OK || !slices.Equal(after, last) {
			t.Fatalf("P17.9: Sets(%v, %v): the last is %v, not %v", a, w, last, after)
		}
		has := slices.ContainsFunc(last, func(p int) bool { return slices.Contains(a.Final, p) })
		if yes, e := nfa.Accepts(a, w); e != api.OK || yes != has {
			t.Fatalf("P17.9: Sets(%v, %v): the last is %v, and the word is taken: %v", a, w, last, yes)
		}
		holdSets(t, a, w)
		if has {
			taken++
		}
	}
	if taken < 50 {
		t.Errorf("P17.9: only %d words were taken", taken)
	}
}
