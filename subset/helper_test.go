package subset_test

import (
	"fmt"
	"slices"
	"testing"

	"wordset/api"
	"wordset/subset"
	"wordset/testkit"
)

const least, most = -1 << 63, 1<<63 - 1

// auto gives an automaton of two symbols; its edges are From, Sym, To one behind the other.
func auto(states int, start, final []int, edges ...int) api.Auto {
	return testkit.Auto(states, 2, start, final, edges...)
}

// last takes the words that end in the symbol 1.
func last() api.Auto { return auto(2, []int{0}, []int{1}, 0, 0, 0, 0, 1, 0, 0, 1, 1) }

// letter has n states and takes the words whose (n-1)-th symbol from the end is a 1.
func letter(n int) api.Auto {
	a := auto(n, []int{0}, []int{n - 1}, 0, 0, 0, 0, 1, 0, 0, 1, 1)
	for p := 1; p < n-1; p++ {
		a.Edges = append(a.Edges, api.Edge{From: p, To: p + 1}, api.Edge{From: p, Sym: 1, To: p + 1})
	}
	return a
}

// line has n states, one behind the other, by one symbol: each is a set, and behind the last one comes the empty set.
func line(n int) api.Auto {
	a := api.Auto{States: n, Symbols: 1, Start: []int{0}, Final: []int{n - 1}}
	for p := range n - 1 {
		a.Edges = append(a.Edges, api.Edge{From: p, To: p + 1})
	}
	return a
}

// ring is a complete automaton of n states in a ring; each symbol leads so many on.
func ring(n int, by ...int) api.Dfa { return testkit.Ring(n, by...) }

// nextSet gives the states to which a symbol leads from those of a list, rising.
func nextSet(a api.Auto, set []int, k int) []int {
	var next []int
	for q := range a.States {
		if slices.ContainsFunc(set, func(p int) bool { return slices.Contains(a.Edges, api.Edge{From: p, Sym: k, To: q}) }) {
			next = append(next, q)
		}
	}
	return next
}

// setAfter gives the states to which a word leads, rising.
func setAfter(a api.Auto, w []int) []int {
	set := testkit.InOrder(a).Start
	for _, k := range w {
		set = nextSet(a, set, k)
	}
	return set
}

// modelMake says P11.2 with plain lists.
func modelMake(a api.Auto) (api.Dfa, [][]int) {
	sets := [][]int{setAfter(a, nil)}
	d := api.Dfa{Symbols: a.Symbols}
	for i := 0; i < len(sets); i++ {
		if meets(sets[i], a.Final) {
			d.Final = append(d.Final, i)
		}
		for k := range a.Symbols {
			next := nextSet(a, sets[i], k)
			n := slices.IndexFunc(sets, func(s []int) bool { return slices.Equal(s, next) })
			if n < 0 {
				n = len(sets)
				sets = append(sets, next)
			}
			d.Next = append(d.Next, n)
		}
	}
	d.States = len(sets)
	return d, sets
}

func meets(x, y []int) bool {
	return slices.ContainsFunc(x, func(n int) bool { return slices.Contains(y, n) })
}

// setsOfWords gives the sets that words lead to, those of the lesser words first: no set is met later than by its least word.
func setsOfWords(a api.Auto, words [][]int) [][]int {
	var sets [][]int
	for _, w := range words {
		set := setAfter(a, w)
		if !slices.ContainsFunc(sets, func(s []int) bool { return slices.Equal(s, set) }) {
			sets = append(sets, set)
		}
	}
	return sets
}

// modelSingle says what goes one way: how many starts there are, and successors of each state by each symbol.
func modelSingle(a api.Auto) bool {
	if len(setAfter(a, nil)) > 1 {
		return false
	}
	for p := range a.States {
		for k := range a.Symbols {
			if len(nextSet(a, []int{p}, k)) > 1 {
				return false
			}
		}
	}
	return true
}

// modelComplete says P11.3 of an automaton that goes one way.
func modelComplete(a api.Auto) api.Dfa {
	n := testkit.InOrder(a)
	d := api.Dfa{States: a.States, Symbols: a.Symbols, Final: n.Final}
	missing := len(n.Start) == 0
	for p := range a.States {
		for k := range a.Symbols {
			to := append(nextSet(a, []int{p}, k), a.States)[0]
			missing = missing || to == a.States
			d.Next = append(d.Next, to)
		}
	}
	if missing {
		d.States++
		for range a.Symbols {
			d.Next = append(d.Next, a.States)
		}
	}
	d.Start = append(n.Start, a.States)[0]
	return d
}

// modelJoin says P11.5: how final a pair is stands in the table word by word.
func modelJoin(d, e api.Dfa, op int) (api.Dfa, [][2]int) {
	pairs := [][2]int{{d.Start, e.Start}}
	j := api.Dfa{Symbols: d.Symbols}
	for i := 0; i < len(pairs); i++ {
		p := pairs[i]
		if hasBit(op, slices.Contains(d.Final, p[0]), slices.Contains(e.Final, p[1])) {
			j.Final = append(j.Final, i)
		}
		for k := range d.Symbols {
			q := [2]int{d.Next[p[0]*d.Symbols+k], e.Next[p[1]*e.Symbols+k]}
			if !slices.Contains(pairs, q) {
				pairs = append(pairs, q)
			}
			j.Next = append(j.Next, slices.Index(pairs, q))
		}
	}
	j.States = len(pairs)
	return j, pairs
}

// hasBit tells whether op has the bit for how two take something.
func hasBit(op int, first, second bool) bool {
	switch {
	case !first && !second:
		return op&1 != 0
	case first && !second:
		return op&2 != 0
	case !first:
		return op&4 != 0
	}
	return op&8 != 0
}

// modelTurn says P11.4.
func modelTurn(d api.Dfa) api.Dfa {
	t := d
	t.Final = nil
	for s := range d.States {
		if !slices.Contains(d.Final, s) {
			t.Final = append(t.Final, s)
		}
	}
	return t
}

// rising gives a complete automaton with its finals rising and each once.
func rising(d api.Dfa) api.Dfa { return modelTurn(modelTurn(d)) }

// modelAuto says P11.7.
func modelAuto(d api.Dfa) api.Auto {
	a := api.Auto{States: d.States, Symbols: d.Symbols, Start: []int{d.Start}, Final: rising(d).Final}
	for i, to := range d.Next {
		a.Edges = append(a.Edges, api.Edge{From: i / d.Symbols, Sym: i % d.Symbols, To: to})
	}
	return a
}

func wantDfa(t *testing.T, call string, d api.Dfa, e api.Errno, want api.Dfa) {
	t.Helper()
	if e != api.OK || !testkit.SameDfa(d, want) {
		t.Fatalf("%s: %v, %d; it should be %v", call, d, e, want)
	}
}

func wantError(t *testing.T, call string, d api.Dfa, e, want api.Errno) {
	t.Helper()
	if e != want || !testkit.NoDfa(d) {
		t.Errorf("%s: %d states, %d; it should be nothing, %d", call, d.States, e, want)
	}
}

func wantMake(t *testing.T, a api.Auto, budget int, want api.Dfa, sets [][]int) {
	t.Helper()
	d, s, e := subset.Make(a, budget)
	call := fmt.Sprintf("P11.2: Make of %v, budget %d", a, budget)
	wantDfa(t, call, d, e, want)
	if !testkit.SameGroup(s, sets) {
		t.Fatalf("%s: the sets are %v; they should be %v", call, s, sets)
	}
}

func wantNoMake(t *testing.T, a api.Auto, budget int, want api.Errno) {
	t.Helper()
	d, sets, e := subset.Make(a, budget)
	wantError(t, fmt.Sprintf("P11.2: Make of %d states, budget %d", a.States, budget), d, e, want)
	if sets != nil {
		t.Errorf("P11.2: %d sets beside an error", len(sets))
	}
}

func wantComplete(t *testing.T, a api.Auto, want api.Dfa) {
	t.Helper()
	if one, e := subset.Single(a); !one || e != api.OK {
		t.Fatalf("P11.3: Single of %v: %v, %d", a, one, e)
	}
	d, e := subset.Complete(a)
	wantDfa(t, fmt.Sprintf("P11.3: Complete of %v", a), d, e, want)
}

func wantJoin(t *testing.T, d, e api.Dfa, op, budget int, want api.Dfa, pairs [][2]int) {
	t.Helper()
	j, p, code := subset.Join(d, e, op, budget)
	call := fmt.Sprintf("P11.5: Join of %v, %v, op %d, budget %d", d, e, op, budget)
	wantDfa(t, call, j, code, want)
	if !slices.Equal(p, pairs) {
		t.Fatalf("%s: the pairs are %v; they should be %v", call, p, pairs)
	}
}

func wantNoJoin(t *testing.T, d, e api.Dfa, op, budget int, want api.Errno) {
	t.Helper()
	j, pairs, code := subset.Join(d, e, op, budget)
	wantError(t, fmt.Sprintf("P11.5: Join of %d and %d states, op %d, budget %d", d.States, e.States, op, budget), j, code, want)
	if pairs != nil {
		t.Errorf("P11.5: %d pairs beside an error", len(pairs))
	}
}

func wantAfter(t *testing.T, d api.Dfa, w []int, state int, taken bool, want api.Errno) {
	t.Helper()
	if s, is, e := subset.After(d, w); s != state || is != taken || e != want {
		t.Fatalf("P11.6: After of %v, %.20v: %d, %v, %d; it should be %d, %v, %d", d, w, s, is, e, state, taken, want)
	}
	if is, e := subset.Takes(d, w); is != taken || e != want {
		t.Fatalf("P11.6: Takes of %v, %.20v: %v, %d; it should be %v, %d", d, w, is, e, taken, want)
	}
}

func wantAuto(t *testing.T, d api.Dfa, want api.Auto) {
	t.Helper()
	if a, e := subset.Auto(d); e != api.OK || !testkit.SameAuto(a, want) {
		t.Fatalf("P11.7: Auto of %v: %v, %d; it should be %v", d, a, e, want)
	}
}

func wantNoAuto(t *testing.T, d api.Dfa, want api.Errno) {
	t.Helper()
	if a, e := subset.Auto(d); e != want || !testkit.NoAuto(a) {
		t.Errorf("P11.7: Auto of %d states: %d states, %d edges, %d; it should be nothing, %d", d.States, a.States, len(a.Edges), e, want)
	}
}

// made gives what Make makes of an automaton that may be.
func made(t *testing.T, a api.Auto) api.Dfa {
	t.Helper()
	d, _, e := subset.Make(a, 0)
	if e != api.OK {
		t.Fatalf("P11.2: Make of %v: %d", a, e)
	}
	return d
}

// questions are what all calls are asked with.
type questions struct {
	a          api.Auto
	d, e       api.Dfa
	w          []int
	op, budget int
}

// ofAuto asks the calls that take an automaton.
func ofAuto(q questions) testkit.Answers {
	var x testkit.Answers
	d, sets, code := subset.Make(q.a, q.budget)
	x.Dfa(d, code)
	x.Group(sets, code)
	x.Dfa(subset.Complete(q.a))
	x.Truth(subset.Single(q.a))
	return x
}

// ofDfa asks those that take one complete automaton.
func ofDfa(q questions) testkit.Answers {
	var x testkit.Answers
	x.Code(subset.Valid(q.d))
	x.Dfa(subset.Turn(q.d))
	x.Auto(subset.Auto(q.d))
	s, taken, code := subset.After(q.d, q.w)
	x.Count(s, code)
	x.Truth(taken, code)
	x.Truth(subset.Takes(q.d, q.w))
	return x
}

// ofBoth asks Join.
func ofBoth(q questions) testkit.Answers {
	var x testkit.Answers
	j, pairs, code := subset.Join(q.d, q.e, q.op, q.budget)
	x.Dfa(j, code)
	x.Pairs(pairs, code)
	return x
}
