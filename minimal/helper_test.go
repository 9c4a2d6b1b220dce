package minimal_test

import (
	"slices"
	"testing"

	"wordset/api"
	"wordset/minimal"
	"wordset/testkit"
)

const lowest, most = -1 << 63, 1<<63 - 1

// behind takes the words in which a 0 stands behind the first symbol.
func behind() api.Dfa { return testkit.Dfa(5, 2, 0, []int{3, 4}, 1, 2, 3, 2, 4, 1, 3, 3, 4, 4) }

// chain has n states, and one of its symbols leads from each to the next one; all others lead nowhere else. The last state is final and stays.
func chain(n, symbols, sym int) api.Dfa {
	d := api.Dfa{States: n, Symbols: symbols, Final: []int{n - 1}}
	for s := range n {
		for k := range symbols {
			to := s
			if k == sym {
				to = min(s+1, n-1)
			}
			d.Next = append(d.Next, to)
		}
	}
	return d
}

// renumbered gives a complete automaton whose states have other numbers: s is to[s] then.
func renumbered(d api.Dfa, to []int) api.Dfa {
	r := api.Dfa{States: d.States, Symbols: d.Symbols, Start: to[d.Start], Next: make([]int, len(d.Next))}
	for _, s := range d.Final {
		r.Final = append(r.Final, to[s])
	}
	for i, s := range d.Next {
		r.Next[to[i/d.Symbols]*d.Symbols+i%d.Symbols] = to[s]
	}
	return r
}

// backwards gives each state the number that is as far from the end.
func backwards(d api.Dfa) api.Dfa {
	to := testkit.Upto(d.States)
	slices.Reverse(to)
	return renumbered(d, to)
}

// sideBySide is two complete automata in one, for the models alone: it may have more states than one may have.
func sideBySide(d, e api.Dfa) api.Dfa {
	b := testkit.Dfa(d.States+e.States, d.Symbols, d.Start, slices.Clone(d.Final), slices.Clone(d.Next)...)
	for _, s := range e.Final {
		b.Final = append(b.Final, d.States+s)
	}
	for _, s := range e.Next {
		b.Next = append(b.Next, d.States+s)
	}
	return b
}

// takesFrom tells whether a state takes a word.
func takesFrom(d api.Dfa, s int, w []int) bool {
	d.Start = s
	return testkit.TakesDfa(d, w)
}

// never is further than any word leads.
const never = 1 << 20

// apart tells of every two states how long the shortest word is that just one of both takes: one more than that of the nearest followers, told over and over till nothing changes.
func apart(d api.Dfa) [][]int {
	far := grid(d.States, func(p, q int) int {
		if slices.Contains(d.Final, p) != slices.Contains(d.Final, q) {
			return 0
		}
		return never
	})
	nearer(d, far, func(p, q, k int) int { return far[d.Next[p*d.Symbols+k]][d.Next[q*d.Symbols+k]] })
	return far
}

// away tells of every two states how long the shortest word is that leads from the first to the second.
func away(d api.Dfa) [][]int {
	far := grid(d.States, func(p, q int) int {
		if p == q {
			return 0
		}
		return never
	})
	nearer(d, far, func(p, q, k int) int { return far[d.Next[p*d.Symbols+k]][q] })
	return far
}

func grid(n int, value func(p, q int) int) [][]int {
	g := make([][]int, n)
	for p := range g {
		for q := range n {
			g[p] = append(g[p], value(p, q))
		}
	}
	return g
}

func nearer(d api.Dfa, far [][]int, next func(p, q, k int) int) {
	for changed := true; changed; {
		changed = false
		for p := range far {
			for q := range far {
				for k := range d.Symbols {
					if n := next(p, q, k) + 1; n < far[p][q] {
						far[p][q], changed = n, true
					}
				}
			}
		}
	}
}

// modelTell says P12.2: of words of the shortest length the least one has, again and again, the least symbol behind which the rest is as short as can be.
func modelTell(d api.Dfa, far [][]int, s, t int) ([]int, bool) {
	var w []int
	for n := far[s][t]; n > 0 && n < never; n-- {
		k := slices.IndexFunc(testkit.Upto(d.Symbols), func(k int) bool { return far[d.Next[s*d.Symbols+k]][d.Next[t*d.Symbols+k]] == n-1 })
		w = append(w, k)
		s, t = d.Next[s*d.Symbols+k], d.Next[t*d.Symbols+k]
	}
	return w, far[s][t] < never
}

// modelAccess says P12.3 in the same way; a state that is reached by no word has none.
func modelAccess(d api.Dfa) ([][]int, []bool) {
	far := away(d)
	words, reached := make([][]int, d.States), make([]bool, d.States)
	for to := range d.States {
		s := d.Start
		for n := far[s][to]; n > 0 && n < never; n-- {
			k := slices.IndexFunc(testkit.Upto(d.Symbols), func(k int) bool { return far[d.Next[s*d.Symbols+k]][to] == n-1 })
			words[to] = append(words[to], k)
			s = d.Next[s*d.Symbols+k]
		}
		reached[to] = s == to
	}
	return words, reached
}

// modelClasses says P12.1.
func modelClasses(d api.Dfa) []int {
	far := apart(d)
	classes := make([]int, d.States)
	for s := range classes {
		classes[s] = slices.Index(far[s], never)
	}
	return classes
}

// modelMinimal says P12.4: each class that is reached has the least of its states' words, and by these words the classes are put in order.
func modelMinimal(d api.Dfa) api.Dfa {
	class := modelClasses(d)
	words, reached := modelAccess(d)
	least := map[int][]int{}
	var order []int
	for s, c := range class {
		w, there := least[c]
		if reached[s] && !there {
			order = append(order, c)
		}
		if reached[s] && (!there || testkit.LengthOrder(words[s], w) < 0) {
			least[c] = words[s]
		}
	}
	slices.SortFunc(order, func(c, e int) int { return testkit.LengthOrder(least[c], least[e]) })
	m := api.Dfa{States: len(order), Symbols: d.Symbols, Start: slices.Index(order, class[d.Start])}
	for i, c := range order {
		if slices.Contains(d.Final, c) {
			m.Final = append(m.Final, i)
		}
		for k := range d.Symbols {
			m.Next = append(m.Next, slices.Index(order, class[d.Next[c*d.Symbols+k]]))
		}
	}
	return m
}

func wantClasses(t *testing.T, d api.Dfa, want []int) {
	t.Helper()
	if l, e := minimal.Classes(d); e != api.OK || !slices.Equal(l, want) {
		t.Fatalf("P12.1: Classes of %v: %v, %d; it should be %v", d, l, e, want)
	}
}

func wantTell(t *testing.T, d api.Dfa, p, q int, want []int) {
	t.Helper()
	if w, e := minimal.Tell(d, p, q); e != api.OK || !slices.Equal(w, want) {
		t.Fatalf("P12.2: Tell of %v, %d, %d: %v, %d; it should be %v", d, p, q, w, e, want)
	}
}

func wantNoTell(t *testing.T, d api.Dfa, p, q int, want api.Errno) {
	t.Helper()
	if w, e := minimal.Tell(d, p, q); e != want || w != nil {
		t.Fatalf("P12.2: Tell of %v, %d, %d: %v, %d; it should be nothing, %d", d, p, q, w, e, want)
	}
}

func wantAccess(t *testing.T, d api.Dfa, want [][]int) {
	t.Helper()
	if l, e := minimal.Access(d); e != api.OK || !testkit.SameGroup(l, want) {
		t.Fatalf("P12.3: Access of %v: %v, %d; it should be %v", d, l, e, want)
	}
}

func wantNoAccess(t *testing.T, d api.Dfa, want api.Errno) {
	t.Helper()
	if l, e := minimal.Access(d); e != want || l != nil {
		t.Fatalf("P12.3: Access of %v: %v, %d; it should be nothing, %d", d, l, e, want)
	}
}

func wantMinimal(t *testing.T, d, want api.Dfa) {
	t.Helper()
	if m, e := minimal.Minimal(d); e != api.OK || !testkit.SameDfa(m, want) {
		t.Fatalf("P12.4: Minimal of %v: %v, %d; it should be %v", d, m, e, want)
	}
}

// wantEqual asks for true, the other way round too.
func wantEqual(t *testing.T, d, e api.Dfa) {
	t.Helper()
	for _, both := range [][2]api.Dfa{{d, e}, {e, d}} {
		if yes, w, code := minimal.Equal(both[0], both[1]); !yes || w != nil || code != api.OK {
			t.Fatalf("P12.5: Equal of %v, %v: %v, %v, %d; it should be true", both[0], both[1], yes, w, code)
		}
	}
}

// wantOther asks for false and a word, the other way round too.
func wantOther(t *testing.T, d, e api.Dfa, want []int) {
	t.Helper()
	for _, both := range [][2]api.Dfa{{d, e}, {e, d}} {
		if yes, w, code := minimal.Equal(both[0], both[1]); yes || !slices.Equal(w, want) || code != api.OK {
			t.Fatalf("P12.5: Equal of %v, %v: %v, %v, %d; it should be false and %v", both[0], both[1], yes, w, code, want)
		}
	}
}

// least gives the least one of a complete automaton that may be.
func least(t *testing.T, d api.Dfa) api.Dfa {
	t.Helper()
	m, e := minimal.Minimal(d)
	if e != api.OK {
		t.Fatalf("P12.4: Minimal of %v: %d", d, e)
	}
	return m
}

// questions are what all calls are asked with.
type questions struct {
	d, e api.Dfa
	s, t int
}

// ofOne asks the calls that take one complete automaton.
func ofOne(q questions) testkit.Answers {
	var x testkit.Answers
	x.Dfa(minimal.Minimal(q.d))
	x.List(minimal.Classes(q.d))
	x.Group(minimal.Access(q.d))
	x.List(minimal.Tell(q.d, q.s, q.t))
	return x
}

// ofBoth asks Equal.
func ofBoth(q questions) testkit.Answers {
	var x testkit.Answers
	yes, w, code := minimal.Equal(q.d, q.e)
	x.Truth(yes, code)
	x.List(w, code)
	return x
}
