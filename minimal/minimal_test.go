package minimal_test

import (
	"fmt"
	"math/rand/v2"
	"slices"
	"testing"

	"wordset/api"
	"wordset/minimal"
	"wordset/testkit"
)

func TestExamples(t *testing.T) {
	d := behind()
	wantClasses(t, d, []int{0, 1, 1, 3, 3})
	wantTell(t, d, 0, 1, []int{0})
	wantNoTell(t, d, 1, 2, api.ErrNone)
	wantTell(t, d, 0, 3, nil)
	wantNoTell(t, d, 0, 5, api.ErrArg)
	wantAccess(t, d, [][]int{{}, {0}, {1}, {0, 0}, {1, 0}})
	m := testkit.Dfa(3, 2, 0, []int{2}, 1, 1, 2, 1, 2, 2)
	wantMinimal(t, d, m)
	wantEqual(t, d, m)
	f := behind()
	f.Final = []int{3}
	wantOther(t, d, f, []int{1, 0})
	wantMinimal(t, testkit.Dfa(3, 2, 1, nil, 1, 2, 0, 0, 2, 1), testkit.Dfa(1, 2, 0, nil, 0, 0))
	wantMinimal(t, testkit.Dfa(2, 0, 1, []int{1}), testkit.Dfa(1, 0, 0, []int{0}))
	wantNoAccess(t, testkit.Dfa(2, 1, 0, nil, 0, 0), api.ErrNone)
	late, nine, over := behind(), behind(), behind()
	late.Start, nine.Next, over.Final = 5, nine.Next[:9], []int{5}
	for _, bad := range []api.Dfa{{}, late, nine, over} {
		for _, x := range []testkit.Answers{ofOne(questions{d: bad}), ofBoth(questions{d: bad, e: d}), ofBoth(questions{d: d, e: bad})} {
			if slices.ContainsFunc(x.Codes, func(e api.Errno) bool { return e != api.ErrDfa }) || !x.Nothing() {
				t.Errorf("P12.8: %v: the codes are %v; each should be %d", bad, x.Codes, api.ErrDfa)
			}
		}
	}
}

// TestNotReached: states that no word reaches have classes and can be told, and what is alike there can be the least state of a class; the least one has none of them.
func TestNotReached(t *testing.T) {
	d := testkit.Dfa(5, 1, 3, []int{1, 4}, 1, 1, 4, 4, 4)
	wantClasses(t, d, []int{0, 1, 0, 0, 1})
	wantMinimal(t, d, testkit.Dfa(2, 1, 0, []int{1}, 1, 1))
	wantTell(t, d, 0, 1, nil)
	wantNoTell(t, d, 0, 2, api.ErrNone)
	wantNoAccess(t, d, api.ErrNone)
	d = testkit.Dfa(4, 1, 3, []int{0}, 1, 2, 0, 3) // 3 takes nothing; the ring beside it is not reached
	wantClasses(t, d, []int{0, 1, 2, 3})
	wantTell(t, d, 1, 3, []int{0, 0})
	wantTell(t, d, 1, 2, []int{0})
	wantMinimal(t, d, testkit.Dfa(1, 1, 0, nil, 0))
}

// TestNumbers: a class has the number of the least word that leads to it, whichever of its states that is, and whatever number the states have.
func TestNumbers(t *testing.T) {
	// by 0 to 4, which is alike 1, by 1 to 2, by 2 to 1
	d := testkit.Dfa(5, 3, 3, []int{1, 4, 2}, 0, 0, 0, 0, 0, 0, 1, 0, 0, 4, 2, 1, 0, 0, 0)
	wantClasses(t, d, []int{0, 1, 2, 3, 1})
	wantMinimal(t, d, testkit.Dfa(4, 3, 0, []int{1, 2}, 1, 2, 1, 3, 3, 3, 1, 3, 3, 3, 3, 3))
	wantAccess(t, d, [][]int{{0, 0}, {2}, {1}, {}, {0}})
}

// TestNoSymbols: nothing but the empty word tells states apart.
func TestNoSymbols(t *testing.T) {
	d := testkit.Dfa(4, 0, 2, []int{3, 1, 3})
	wantClasses(t, d, []int{0, 1, 0, 1})
	wantTell(t, d, 3, 0, nil)
	wantNoTell(t, d, 3, 1, api.ErrNone)
	wantNoAccess(t, d, api.ErrNone)
	wantMinimal(t, d, testkit.Dfa(1, 0, 0, nil))
	wantAccess(t, testkit.Dfa(1, 0, 0, nil), [][]int{{}})
	wantEqual(t, d, testkit.Dfa(1, 0, 0, nil))
	wantOther(t, d, testkit.Dfa(1, 0, 0, []int{0, 0}), nil)
}

// TestLeastWord: of words of one length the lesser one is told, though a pair that it leads through is met by other words too.
func TestLeastWord(t *testing.T) {
	d := testkit.Dfa(6, 3, 0, []int{5}, 4, 1, 1, 4, 3, 3, 2, 2, 4, 4, 4, 5, 4, 4, 2, 5, 5, 5)
	wantTell(t, d, 0, 4, []int{1, 1, 2})
	wantTell(t, d, 0, 1, []int{1, 2})
	wantTell(t, d, 2, 1, []int{1, 2})
	wantTell(t, d, 3, 4, []int{2})
	wantTell(t, d, 1, 3, []int{2})
	wantTell(t, d, 5, 0, nil)
	wantNoTell(t, d, 2, 4, api.ErrNone)
}

// holdOne holds all calls that take one complete automaton against the models.
func holdOne(t *testing.T, d api.Dfa) {
	t.Helper()
	wantClasses(t, d, modelClasses(d))
	wantMinimal(t, d, modelMinimal(d))
	if words, reached := modelAccess(d); slices.Contains(reached, false) {
		wantNoAccess(t, d, api.ErrNone)
	} else {
		wantAccess(t, d, words)
	}
	far := apart(d)
	for p := range d.States {
		for q := range d.States {
			w, told := modelTell(d, far, p, q)
			if !told {
				wantNoTell(t, d, p, q, api.ErrNone)
				continue
			}
			wantTell(t, d, p, q, w)
			if takesFrom(d, p, w) == takesFrom(d, q, w) || len(w) > d.States-2 {
				t.Fatalf("P12.7: Tell of %v, %d, %d: %v", d, p, q, w)
			}
		}
	}
}

// holdLeast holds what comes of Minimal and Access.
func holdLeast(t *testing.T, d api.Dfa) {
	t.Helper()
	m := least(t, d)
	wantMinimal(t, m, m)
	wantClasses(t, m, testkit.Upto(m.States))
	words, e := minimal.Access(m)
	if e != api.OK || len(words) != m.States || !slices.IsSortedFunc(words, testkit.LengthOrder) {
		t.Fatalf("P12.6: Access of the least one of %v: %v, %d", d, words, e)
	}
	for s, w := range words {
		if len(w) >= m.States || testkit.Leads(m, w) != s {
			t.Fatalf("P12.7: Access of %v: %v", m, words)
		}
	}
	wantEqual(t, d, m)
}

// holdWords holds the calls against words, which are all up to a length that tells what can be told.
func holdWords(t *testing.T, d api.Dfa, words [][]int) {
	t.Helper()
	m := least(t, d)
	for _, w := range words {
		if testkit.TakesDfa(m, w) != testkit.TakesDfa(d, w) {
			t.Fatalf("P12.6: Minimal of %v: %v", d, w)
		}
	}
	for p := range d.States {
		for q := range d.States {
			i := slices.IndexFunc(words, func(w []int) bool { return takesFrom(d, p, w) != takesFrom(d, q, w) })
			if i < 0 {
				wantNoTell(t, d, p, q, api.ErrNone)
			} else {
				wantTell(t, d, p, q, words[i])
			}
		}
	}
	access, e := minimal.Access(d)
	for s := range d.States {
		i := slices.IndexFunc(words, func(w []int) bool { return testkit.Leads(d, w) == s })
		if i < 0 && e != api.ErrNone || e == api.OK && !slices.Equal(access[s], words[i]) {
			t.Fatalf("P12.3: Access of %v: %v, %d", d, access, e)
		}
	}
}

func TestEvery(t *testing.T) {
	for _, c := range []struct{ states, symbols int }{{1, 0}, {1, 1}, {1, 2}, {1, 3}, {2, 0}, {2, 1}, {2, 2}, {2, 3}, {3, 0}, {3, 1}, {3, 2}, {4, 0}, {4, 1}} {
		words := testkit.Words(c.symbols, c.states)
		for d := range testkit.EveryDfa(c.states, c.symbols) {
			holdOne(t, d)
			holdLeast(t, d)
			if c.states < 3 || c.symbols < 2 || d.Start == 0 {
				holdWords(t, d, words)
			}
		}
	}
}

// TestFewest: of all complete automata with the same words none has fewer states than the least one. Two of three states at most are told apart by a word of at most four symbols.
func TestFewest(t *testing.T) {
	for symbols := range 3 {
		words := testkit.Words(symbols, 4)
		fewest, leasts := map[string]int{}, map[string]api.Dfa{}
		for states := 1; states <= 3; states++ {
			for d := range testkit.EveryDfa(states, symbols) {
				taken := ""
				for _, w := range words {
					taken += fmt.Sprint(testkit.TakesDfa(d, w))[:1]
				}
				if fewest[taken] == 0 {
					fewest[taken], leasts[taken] = d.States, least(t, d)
				}
				if m := least(t, d); m.States != fewest[taken] || !testkit.SameDfa(m, leasts[taken]) {
					t.Fatalf("P12.6: Minimal of %v: %v; there is one of %d states, and %v", d, m, fewest[taken], leasts[taken])
				}
			}
		}
	}
}

// holdTwo holds Equal against the model, and against both's least ones.
func holdTwo(t *testing.T, d, e api.Dfa) {
	t.Helper()
	b := sideBySide(d, e)
	w, told := modelTell(b, apart(b), d.Start, d.States+e.Start)
	if same := testkit.SameDfa(least(t, d), least(t, e)); same == told {
		t.Fatalf("P12.6: the least ones of %v, %v are the same: %v", d, e, same)
	}
	if !told {
		wantEqual(t, d, e)
		return
	}
	wantOther(t, d, e, w)
	if testkit.TakesDfa(d, w) == testkit.TakesDfa(e, w) || len(w) > d.States+e.States-2 {
		t.Fatalf("P12.7: Equal of %v, %v: %v", d, e, w)
	}
}

func TestEveryTwo(t *testing.T) {
	for _, c := range []struct{ first, second, symbols int }{{1, 1, 0}, {1, 2, 0}, {2, 2, 0}, {1, 1, 1}, {1, 2, 1}, {2, 2, 1}, {3, 2, 1}, {1, 2, 2}, {1, 3, 1}} {
		words := testkit.Words(c.symbols, c.first+c.second)
		for d := range testkit.EveryDfa(c.first, c.symbols) {
			for e := range testkit.EveryDfa(c.second, c.symbols) {
				holdTwo(t, d, e)
				i := slices.IndexFunc(words, func(w []int) bool { return testkit.TakesDfa(d, w) != testkit.TakesDfa(e, w) })
				if i < 0 {
					wantEqual(t, d, e)
				} else {
					wantOther(t, d, e, words[i])
				}
			}
		}
	}
}

// drawn draws a complete automaton some of whose states are alike: each is one of a smaller one's, and leads to any that is what it should lead to.
func drawn(d testkit.Draw, states, symbols int) api.Dfa {
	small := d.Dfa(4, symbols)
	of := append(testkit.Upto(small.States), d.List(small.States, d(states-3))...)
	big := api.Dfa{States: len(of), Symbols: symbols, Start: d(len(of))}
	for s, o := range of {
		if slices.Contains(small.Final, o) {
			big.Final = append(big.Final, s)
		}
		for k := range symbols {
			to := d(len(of))
			for of[to] != small.Next[o*symbols+k] {
				to = (to + 1) % len(of)
			}
			big.Next = append(big.Next, to)
		}
	}
	return big
}

func TestDrawn(t *testing.T) {
	d := testkit.Draw(rand.New(rand.NewPCG(12, 1)).IntN)
	for range 1500 {
		x, y := d.Dfa(9, d(4)), drawn(d, 12, d(4))
		for _, z := range []api.Dfa{x, y} {
			holdOne(t, z)
			holdLeast(t, z)
		}
	}
}

func TestDrawnTwo(t *testing.T) {
	d := testkit.Draw(rand.New(rand.NewPCG(12, 2)).IntN)
	for range 1500 {
		symbols := d(4)
		x, y := d.Dfa(7, symbols), drawn(d, 12, symbols)
		holdTwo(t, x, y)
		z := y
		z.Final = append(slices.Clone(y.Final), d(y.States))
		holdTwo(t, y, z)
		holdTwo(t, y, renumbered(y, rand.New(rand.NewPCG(12, 3)).Perm(y.States)))
	}
}

// TestFarApart: the bounds of P12.7 are reached: a chain's ends by States - 2 symbols, and two rings with no common turn by as many symbols as both have states, less two.
func TestFarApart(t *testing.T) {
	for n := 2; n <= 9; n++ {
		for _, d := range []api.Dfa{chain(n, 2, 0), chain(n, 2, 1)} {
			w, e := minimal.Tell(d, 0, 1)
			if e != api.OK || len(w) != n-2 {
				t.Errorf("P12.7: Tell of a chain of %d: %v, %d", n, w, e)
			}
			words, e := minimal.Access(d)
			if e != api.OK || len(words[n-1]) != n-1 {
				t.Errorf("P12.7: Access of a chain of %d: %v, %d", n, words, e)
			}
		}
	}
	for _, c := range [][2]int{{1, 2}, {2, 3}, {3, 4}, {3, 5}, {2, 5}} {
		longest := 0
		for i := range 1 << c[0] {
			for j := range 1 << c[1] {
				d, e := ringOf(c[0], i), ringOf(c[1], j)
				holdTwo(t, d, e)
				_, w, _ := minimal.Equal(d, e)
				longest = max(longest, len(w))
			}
		}
		if longest != c[0]+c[1]-2 {
			t.Errorf("P12.7: rings of %d and %d are told apart by %d symbols at most", c[0], c[1], longest)
		}
	}
}

// ringOf is a ring whose finals are the bits of a number.
func ringOf(n, bits int) api.Dfa {
	d := testkit.Ring(n, 1)
	d.Final = slices.DeleteFunc(testkit.Upto(n), func(s int) bool { return bits>>s&1 == 0 })
	return d
}
