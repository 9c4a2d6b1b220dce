package antichain_test

import (
	"slices"
	"testing"

	"wordset/antichain"
	"wordset/api"
	"wordset/testkit"
)

const lowest, most = -1 << 63, 1<<63 - 1

// root is the link of a pair that was not found from another one.
var root = api.Link{Parent: -1, Sym: -1}

// model says the chapter's words with plain lists. The states of u are those of a, then those of b.
type model struct {
	a, b  api.Auto
	below api.Matrix
}

func modelOf(a, b api.Auto, simul bool) model {
	m := model{a: testkit.InOrder(a), b: testkit.InOrder(b)}
	if simul {
		m.below = testkit.Greatest(testkit.SideBySide(m.a, m.b), false)
	} else {
		m.below = testkit.Relation(a.States+b.States, func(p, q int) bool { return p == q })
	}
	return m
}

func (m model) inFirst(p, q int) bool { return testkit.HasPair(m.below, p, q) }

func (m model) across(p, s int) bool { return testkit.HasPair(m.below, p, m.a.States+s) }

func (m model) inSecond(s, t int) bool {
	return testkit.HasPair(m.below, m.a.States+s, m.a.States+t)
}

func (m model) least(set []int) []int {
	var kept []int
	for _, s := range set {
		if !slices.ContainsFunc(set, func(t int) bool {
			return t != s && m.inSecond(s, t) && !(m.inSecond(t, s) && t > s)
		}) {
			kept = append(kept, s)
		}
	}
	return kept
}

// post gives the states to which a symbol leads from those of a list, rising.
func post(a api.Auto, set []int, k int) []int {
	var next []int
	for q := range a.States {
		if slices.ContainsFunc(set, func(p int) bool { return slices.Contains(a.Edges, api.Edge{From: p, Sym: k, To: q}) }) {
			next = append(next, q)
		}
	}
	return next
}

func (m model) bad(x api.Taken) bool {
	return slices.Contains(m.a.Final, x.State) && !slices.ContainsFunc(x.Set, func(s int) bool { return slices.Contains(m.b.Final, s) })
}

// safe tells whether a pair's state is below one of its set.
func (m model) safe(x api.Taken) bool {
	return slices.ContainsFunc(x.Set, func(s int) bool { return m.across(x.State, s) })
}

// subsumes tells whether y subsumes x.
func (m model) subsumes(y, x api.Taken) bool {
	return m.inFirst(x.State, y.State) && !slices.ContainsFunc(y.Set, func(t int) bool {
		return !slices.ContainsFunc(x.Set, func(s int) bool { return m.inSecond(t, s) })
	})
}

func (m model) roots() []api.Taken {
	var all []api.Taken
	for _, p := range m.a.Start {
		all = append(all, api.Taken{State: p, Set: m.least(m.b.Start), Link: root})
	}
	return all
}

// next gives the pairs that are found from the one at a place.
func (m model) next(x api.Taken, at int) []api.Taken {
	var all []api.Taken
	for k := range m.a.Symbols {
		set := m.least(post(m.b, x.Set, k))
		for _, q := range post(m.a, []int{x.State}, k) {
			all = append(all, api.Taken{State: q, Set: set, Link: api.Link{Parent: at, Sym: k}})
		}
	}
	return all
}

// search says P15.1 without a budget.
func (m model) search() ([]api.Taken, int) {
	var kept []api.Taken
	found := m.roots()
	for at := 0; ; at++ {
		for _, x := range found {
			bad := m.bad(x)
			if bad || !m.safe(x) && !slices.ContainsFunc(kept, func(y api.Taken) bool { return m.subsumes(y, x) }) {
				kept = append(kept, x)
			}
			if bad {
				return kept, len(kept) - 1
			}
		}
		if at == len(kept) {
			return kept, -1
		}
		found = m.next(kept[at], at)
	}
}

// includes says P15.2 of what a search has kept.
func includes(kept []api.Taken, bad int) api.Found {
	if bad < 0 {
		return api.Found{Yes: true, Pairs: len(kept)}
	}
	f := api.Found{Has: true, Side: 1, Pairs: len(kept)}
	for at := bad; kept[at].Link != root; at = kept[at].Link.Parent {
		f.Word = append([]int{kept[at].Link.Sym}, f.Word...)
	}
	return f
}

func wantSearch(t *testing.T, a, b api.Auto, simul bool, budget int, want []api.Taken, bad int) {
	t.Helper()
	if kept, at, e := antichain.Search(a, b, simul, budget); e != api.OK || at != bad || !testkit.SameTaken(kept, want) {
		t.Fatalf("P15.1: Search of %v, %v, simul %v, budget %d: %v, %d, %d; it should be %v, %d", a, b, simul, budget, kept, at, e, want, bad)
	}
	f, e := antichain.Includes(a, b, simul, budget)
	if g := includes(want, bad); e != api.OK || !testkit.SameFound(f, g) {
		t.Fatalf("P15.2: Includes of %v, %v, simul %v, budget %d: %v, %d; it should be %v", a, b, simul, budget, f, e, g)
	}
}

// wantIncludes is for automata that are too large for the model.
func wantIncludes(t *testing.T, a, b api.Auto, simul bool, want api.Found) {
	t.Helper()
	if f, e := antichain.Includes(a, b, simul, 0); e != api.OK || !testkit.SameFound(f, want) {
		t.Fatalf("P15.2: Includes of %d and %d states, simul %v: yes %v, a word of %d symbols, %d pairs, %d; it should be yes %v, %d symbols, %d pairs", a.States, b.States, simul, f.Yes, len(f.Word), f.Pairs, e, want.Yes, len(want.Word), want.Pairs)
	}
}

func wantNone(t *testing.T, a, b api.Auto, budget int, want api.Errno) {
	t.Helper()
	for _, simul := range []bool{false, true} {
		if x := ask(questions{a, b, simul, budget}); slices.ContainsFunc(x.Codes, func(e api.Errno) bool { return e != want }) || !x.Nothing() {
			t.Fatalf("P15.1: of %d and %d states, simul %v, budget %d: the codes are %v; each should be %d, and nothing beside them", a.States, b.States, simul, budget, x.Codes, want)
		}
	}
}

// questions are what both calls are asked with.
type questions struct {
	a, b   api.Auto
	simul  bool
	budget int
}

func ask(q questions) testkit.Answers {
	var x testkit.Answers
	kept, bad, e := antichain.Search(q.a, q.b, q.simul, q.budget)
	x.Taken(kept, e)
	x.Count(bad, e)
	x.Found(antichain.Includes(q.a, q.b, q.simul, q.budget))
	return x
}
