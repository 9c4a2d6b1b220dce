package count_test

import (
	"math/big"
	"math/rand/v2"
	"slices"
	"testing"

	"wordset/api"
	"wordset/count"
	"wordset/minimal"
	"wordset/nfa"
	"wordset/subset"
	"wordset/testkit"
)

// every takes all words over two symbols.
func every() api.Auto { return testkit.Auto(1, 2, []int{0}, []int{0}, 0, 0, 0, 0, 1, 0) }

// twin is the same with a second state that is just like the first.
func twin() api.Auto {
	return testkit.Auto(2, 2, []int{0, 1}, []int{0, 1}, 0, 0, 0, 0, 0, 1, 0, 1, 0, 0, 1, 1, 1, 0, 0, 1, 0, 1, 1, 1, 0, 1, 1, 1)
}

// few takes the words 0 and 0 1.
func few() api.Auto { return testkit.Auto(3, 2, []int{0}, []int{2}, 0, 0, 1, 1, 1, 2, 0, 0, 2) }

func TestExamples(t *testing.T) {
	wantSets(t, every(), 3, 1, digits(1, 2, 4, 8))
	wantWords(t, every(), 4, [][]int{{}, {0}, {1}, {0, 0}})
	wantLongest(t, every(), -2)
	wantAmbiguous(t, every(), false, nil, api.OK)
	wantSets(t, twin(), 3, 1, digits(1, 2, 4, 8))
	wantRuns(t, twin(), nil, "2")
	wantRuns(t, twin(), []int{0, 1}, "8")
	wantAmbiguous(t, twin(), true, nil, api.OK)
	wantSets(t, few(), 3, 3, digits(0, 1, 1, 0))
	wantWords(t, few(), 9, [][]int{{0}, {0, 1}})
	wantLongest(t, few(), 2)
	none := testkit.Auto(2, 2, []int{0}, nil, 0, 0, 1, 1, 0, 0)
	wantSets(t, none, 1, 2, digits(0, 0))
	wantWords(t, none, 5, nil)
	wantLongest(t, none, -1)
	wantByLength(t, testkit.Letter(4), 200, 7, nil, api.ErrBudget)
	if l, e := count.ByLength(testkit.Letter(4), 200, 8); e != api.OK || len(l) != 201 {
		t.Errorf("P19.2: %d numbers, %d", len(l), e)
	}
	wantFirst(t, every(), 4, 3, nil, api.ErrBudget)
	wantFirst(t, every(), 4, 4, [][]int{{}, {0}, {1}, {0, 0}}, api.OK)
	wantByLength(t, every(), -1, 0, nil, api.ErrArg)
	wantByLength(t, every(), 201, 0, nil, api.ErrArg)
	wantFirst(t, every(), -1, 0, nil, api.ErrArg)
	wantRuns(t, every(), []int{2}, "0")
}

// TestReadme: what README.md says of an automaton.
func TestReadme(t *testing.T) {
	a := api.Auto{States: 2, Symbols: 2, Start: []int{0}, Final: []int{1}, Edges: []api.Edge{{Sym: 0, To: 0}, {Sym: 0, To: 1}, {Sym: 1, To: 1}, {From: 1, Sym: 0, To: 1}}}
	wantByLength(t, a, 3, 0, digits(0, 2, 3, 4), api.OK)
	wantFirst(t, a, 4, 7, [][]int{{0}, {1}, {0, 0}, {0, 1}}, api.OK)
	wantRuns(t, a, []int{0, 0}, "2")
	wantAmbiguous(t, a, true, []int{0, 0}, api.OK)
	wantLongest(t, a, -2)
}

// TestSmall: all automata of few states and symbols.
func TestSmall(t *testing.T) {
	for _, c := range []struct{ states, symbols, most int }{{0, 0, 2}, {0, 2, 2}, {1, 0, 3}, {1, 1, 4}, {1, 3, 2}, {2, 0, 2}, {2, 1, 4}, {2, 2, 3}, {3, 1, 3}} {
		for a := range testkit.Every(c.states, c.symbols) {
			hold(t, a, c.most)
		}
	}
}

func TestDrawn(t *testing.T) {
	d := testkit.Draw(rand.New(rand.NewPCG(19, 1)).IntN)
	seen := map[string]int{}
	for i := range 6000 {
		a := d.Auto(7, 3)
		switch i % 4 {
		case 1:
			a = d.Kin(1+d(5), 2)
		case 2:
			a, _ = d.Related(4, 2)
		case 3:
			a = rising(d, 2+d(6))
		}
		if a.States > 8 {
			continue
		}
		hold(t, a, 4)
		if longestOf(a) > 1 {
			seen["finite"]++
		} else if longestOf(a) < -1 {
			seen["infinite"]++
		}
		if yes, word := ambiguityOf(a); yes && len(word) > 2 {
			seen["ambiguous"]++
		} else if !yes {
			seen["unambiguous"]++
		}
	}
	for _, kind := range []string{"finite", "infinite", "ambiguous", "unambiguous"} {
		if seen[kind] < 100 {
			t.Errorf("too few were drawn: %v", seen)
		}
	}
}

// rising draws an automaton whose edges lead to greater states alone, by other numbers.
func rising(d testkit.Draw, states int) api.Auto {
	a := api.Auto{States: states, Symbols: 1 + d(2), Start: []int{0}, Final: []int{states - 1, d(states)}}
	for range 1 + d(3*states) {
		p := d(states - 1)
		a.Edges = append(a.Edges, api.Edge{From: p, Sym: d(a.Symbols), To: p + 1 + d(states-1-p)})
	}
	return d.Renumbered(a)
}

// numbersOf counts the words of a complete automaton from their ends on: how many lead from each state to a final one.
func numbersOf(m api.Dfa, most int) []string {
	now := make([]*big.Int, m.States)
	for p := range now {
		now[p] = big.NewInt(0)
		if slices.Contains(m.Final, p) {
			now[p] = big.NewInt(1)
		}
	}
	list := []string{now[m.Start].String()}
	for range most {
		next := make([]*big.Int, m.States)
		for p := range next {
			next[p] = new(big.Int)
			for k := range m.Symbols {
				next[p].Add(next[p], now[m.Next[p*m.Symbols+k]])
			}
		}
		now = next
		list = append(list, now[m.Start].String())
	}
	return list
}

// setsOf counts the sets that words of at most so many symbols lead to, but for the empty one.
func setsOf(a api.Auto, most int) int {
	level := []uint64{testkit.Bits(a.Start)}
	seen := map[uint64]int{level[0]: 1}
	for range most {
		var next []uint64
		for _, set := range level {
			for k := range a.Symbols {
				if s := testkit.PostBits(a, set, k); seen[s] == 0 {
					seen[s] = 1
					next = append(next, s)
				}
			}
		}
		level = next
	}
	return len(seen) - seen[0]
}

// TestLongLengths: all lengths that may be asked for, against the least complete automaton.
func TestLongLengths(t *testing.T) {
	d := testkit.Draw(rand.New(rand.NewPCG(19, 2)).IntN)
	long := 0
	for i := range 300 {
		a := d.Kin(1+d(8), 3)
		if i%2 == 0 {
			a, _ = d.Hidden(1+d(8), 2)
		}
		made, _, e := subset.Make(a, 0)
		if e != api.OK {
			t.Fatal(e)
		}
		m, _ := minimal.Minimal(made)
		want := numbersOf(m, 200)
		for _, most := range []int{0, 1, 2, 3, 7, 199, 200} {
			wantSets(t, a, most, setsOf(a, most), want[:most+1])
		}
		if len(want[200]) > 30 {
			long++
		}
	}
	if long < 100 {
		t.Errorf("only %d had great numbers", long)
	}
}

// TestRunsOfLongWords: the paths are as many as those of a word's beginning that lead to a state, times those that lead on from it, summed over all states.
func TestRunsOfLongWords(t *testing.T) {
	d := testkit.Draw(rand.New(rand.NewPCG(19, 3)).IntN)
	great := 0
	for range 200 {
		a := dense(d, 1+d(6))
		w := d.List(2, d(100))
		cut := d(len(w) + 1)
		sum := new(big.Int)
		for p := range a.States {
			into, from := a, a
			into.Final, from.Start = []int{p}, []int{p}
			x, _ := count.Runs(into, w[:cut])
			y, _ := count.Runs(from, w[cut:])
			sum.Add(sum, new(big.Int).Mul(number(t, x), number(t, y)))
		}
		wantRuns(t, a, w, sum.String())
		back, _ := nfa.Reverse(a)
		slices.Reverse(w)
		wantRuns(t, back, w, sum.String())
		if sum.BitLen() > 64 {
			great++
		}
	}
	if great < 50 {
		t.Errorf("only %d words had many paths", great)
	}
}

// dense draws an automaton over two symbols that has about half of all edges.
func dense(d testkit.Draw, states int) api.Auto {
	a := api.Auto{States: states, Symbols: 2, Start: d.List(states, 1+d(2)), Final: d.List(states, 1+d(2))}
	for p := range states {
		for q := range states {
			for k := range 2 {
				if d(2) == 0 {
					a.Edges = append(a.Edges, api.Edge{From: p, Sym: k, To: q})
				}
			}
		}
	}
	return a
}

func number(t *testing.T, digits string) *big.Int {
	t.Helper()
	n, ok := new(big.Int).SetString(digits, 10)
	if !ok || n.String() != digits {
		t.Fatalf("P19.3: %q is no number in digits", digits)
	}
	return n
}

// TestTogether: what P19.7 says comes of the promises.
func TestTogether(t *testing.T) {
	d := testkit.Draw(rand.New(rand.NewPCG(19, 4)).IntN)
	for i := range 400 {
		a := d.Kin(1+d(12), 2)
		if i%2 == 0 {
			a = rising(d, 2+d(12))
		}
		numbers, _ := count.ByLength(a, 10, 0)
		longest := longestOf(a)
		wantLongest(t, a, longest)
		words, e := count.First(a, 300, 0)
		if e != api.OK || longest >= a.States {
			t.Fatalf("P19.7: %v: %d, %d", a, e, longest)
		}
		for j, w := range words {
			if !testkit.Reads(a, w) || j > 0 && testkit.LengthOrder(words[j-1], w) >= 0 {
				t.Fatalf("P19.7: %v: %v may not stand at %d", a, w, j)
			}
			if s, _ := count.Runs(a, w); s == "0" {
				t.Fatalf("P19.7: %v: %v has no path", a, w)
			}
		}
		yes, word, _ := count.Ambiguous(a)
		for _, w := range testkit.Words(a.Symbols, 5) {
			s, _ := count.Runs(a, w)
			if takes := testkit.Reads(a, w); (s != "0") != takes || s != "0" && s != "1" && !yes {
				t.Fatalf("P19.7: %v: %v has %s paths", a, w, s)
			}
		}
		if s, _ := count.Runs(a, word); yes && (s == "0" || s == "1") {
			t.Fatalf("P19.5: %v: %v has %s paths", a, word, s)
		}
		// no word is missing: of each length that is told whole there are as many as are counted
		byLength := map[int]int{}
		for _, w := range words {
			byLength[len(w)]++
		}
		for n, digits := range numbers {
			whole := len(words) < 300 || n < len(words[299])
			if whole && number(t, digits).Cmp(big.NewInt(int64(byLength[n]))) != 0 {
				t.Fatalf("P19.7: %v: %d words of length %d, counted %s", a, byLength[n], n, digits)
			}
		}
		if len(words) < 300 && longest == -2 {
			t.Fatalf("P19.7: %v: only %d words", a, len(words))
		}
	}
}
