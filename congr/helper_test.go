package congr_test

import (
	"fmt"
	"slices"
	"testing"

	"wordset/api"
	"wordset/congr"
	"wordset/testkit"
)

const lowest, most = -1 << 63, 1<<63 - 1

// options are all that a search can be asked with.
var options = []api.Options{{}, {Simul: true}, {Trim: true}, {Trim: true, Simul: true}}

// rule is a pair of sets as bits.
type rule [2]uint64

// closed says what the normal form of a set is, one rule behind the other as long as one makes a difference.
func closed(rules []rule, z uint64) uint64 {
	for {
		before := z
		for _, r := range rules {
			for i := range 2 {
				if r[i]&^z == 0 {
					z |= r[1-i]
				}
			}
		}
		if z == before {
			return z
		}
	}
}

func isRelated(rules []rule, x, y uint64) bool { return closed(rules, x) == closed(rules, y) }

// step is a pair of the search, with the word by which it was found.
type step struct {
	pair rule
	word []int
}

// model says the chapter's search without a budget, in an automaton that is the union of two.
func model(u api.Auto, first rule) api.Found {
	accepts := func(set uint64) bool { return set&testkit.Bits(u.Final) != 0 }
	var processed []rule
	found := []step{{pair: first}}
	var waiting []step
	for {
		for _, p := range found {
			if accepts(p.pair[0]) != accepts(p.pair[1]) {
				side := 2
				if accepts(p.pair[0]) {
					side = 1
				}
				return api.Found{Has: true, Word: p.word, Side: side, Pairs: len(processed)}
			}
			waiting = append(waiting, p)
		}
		found = nil
		for len(waiting) > 0 && leftOut(processed, waiting) {
			waiting = waiting[1:]
		}
		if len(waiting) == 0 {
			return api.Found{Yes: true, Pairs: len(processed)}
		}
		p := waiting[0]
		waiting = waiting[1:]
		processed = append(processed, p.pair)
		for k := range u.Symbols {
			q := rule{testkit.PostBits(u, p.pair[0], k), testkit.PostBits(u, p.pair[1], k)}
			found = append(found, step{q, append(slices.Clone(p.word), k)})
		}
	}
}

// leftOut tells whether the first of those that wait is related by those that were processed and the others that wait.
func leftOut(processed []rule, waiting []step) bool {
	rules := slices.Clone(processed)
	for _, p := range waiting[1:] {
		rules = append(rules, p.pair)
	}
	return isRelated(rules, waiting[0].pair[0], waiting[0].pair[1])
}

// trimmed says what the useful part of an automaton is: the states that lie on a way from a start to an end.
func trimmed(a api.Auto) api.Auto {
	on, back := testkit.Bits(a.Start), testkit.Bits(a.Final)
	for range a.States {
		for _, e := range a.Edges {
			on |= on >> e.From & 1 << e.To
			back |= back >> e.To & 1 << e.From
		}
	}
	b := api.Auto{Symbols: a.Symbols}
	number := make([]int, a.States)
	for p := range number {
		number[p] = -1
		if on&back>>p&1 == 1 {
			number[p] = b.States
			b.States++
		}
	}
	kept := func(list []int) []int {
		var out []int
		for _, p := range list {
			if number[p] >= 0 {
				out = append(out, number[p])
			}
		}
		return out
	}
	b.Start, b.Final = kept(a.Start), kept(a.Final)
	for _, e := range a.Edges {
		if number[e.From] >= 0 && number[e.To] >= 0 {
			b.Edges = append(b.Edges, api.Edge{From: number[e.From], Sym: e.Sym, To: number[e.To]})
		}
	}
	return b
}

// answers says what both searches should answer without a budget: first Equal, then Include.
func answers(a, b api.Auto, trim bool) [2]api.Found {
	if trim {
		a, b = trimmed(a), trimmed(b)
	}
	u := testkit.SideBySide(a, b)
	x, y := testkit.Bits(a.Start), testkit.Bits(b.Start)<<a.States
	return [2]api.Found{model(u, rule{x, y}), model(u, rule{x | y, y})}
}

// question is what both searches are asked with.
type question struct {
	a, b    api.Auto
	options api.Options
	budget  int
}

func ask(q question) testkit.Answers {
	var x testkit.Answers
	x.Found(congr.Equal(q.a, q.b, q.options, q.budget))
	x.Found(congr.Include(q.a, q.b, q.options, q.budget))
	return x
}

// brief tells something; of what is long just the beginning.
func brief(x any) string {
	text := fmt.Sprint(x)
	if len(text) > 300 {
		return text[:300] + " .."
	}
	return text
}

// want looks at both searches; it is for automata of any size.
func want(t *testing.T, q question, equal, include api.Found) {
	t.Helper()
	if f, e := congr.Equal(q.a, q.b, q.options, q.budget); e != api.OK || !testkit.SameFound(f, equal) {
		t.Fatalf("P16.1: Equal of %s: %s, %d; it should be %s", brief(q), brief(f), e, brief(equal))
	}
	if f, e := congr.Include(q.a, q.b, q.options, q.budget); e != api.OK || !testkit.SameFound(f, include) {
		t.Fatalf("P16.2: Include of %s: %s, %d; it should be %s", brief(q), brief(f), e, brief(include))
	}
}

// wantPlain asks without trimming and without a budget.
func wantPlain(t *testing.T, a, b api.Auto, equal, include api.Found) {
	t.Helper()
	want(t, question{a: a, b: b}, equal, include)
}

// wantNone looks whether both searches answer an error and nothing else, whatever the options.
func wantNone(t *testing.T, a, b api.Auto, budget int, want api.Errno) {
	t.Helper()
	for _, o := range options {
		if x := ask(question{a, b, o, budget}); slices.ContainsFunc(x.Codes, func(e api.Errno) bool { return e != want }) || !x.Nothing() {
			t.Fatalf("P16.1, P16.2: of %d and %d states, %v, budget %d: the codes are %v; each should be %d, and nothing beside them", a.States, b.States, o, budget, x.Codes, want)
		}
	}
}

func yes(pairs int) api.Found { return api.Found{Yes: true, Pairs: pairs} }

func no(side, pairs int, word ...int) api.Found {
	return api.Found{Has: true, Word: word, Side: side, Pairs: pairs}
}

// rewriting is what Close and Related are asked with.
type rewriting struct {
	n     int
	rules [][2][]int
	x, y  []int
}

func askRules(q rewriting) testkit.Answers {
	var x testkit.Answers
	x.List(congr.Close(q.n, q.rules, q.x))
	x.List(congr.Close(q.n, q.rules, q.y))
	x.Truth(congr.Related(q.n, q.rules, q.x, q.y))
	return x
}

func wantClose(t *testing.T, n int, rules [][2][]int, set, want []int) {
	t.Helper()
	if got, e := congr.Close(n, rules, set); e != api.OK || !slices.Equal(got, want) {
		t.Fatalf("P16.3: Close of %d, %s, %s: %s, %d; it should be %s", n, brief(rules), brief(set), brief(got), e, brief(want))
	}
}

func wantRelated(t *testing.T, n int, rules [][2][]int, x, y []int, want bool) {
	t.Helper()
	if got, e := congr.Related(n, rules, x, y); e != api.OK || got != want {
		t.Fatalf("P16.3: Related of %d, %s, %s, %s: %v, %d; it should be %v", n, brief(rules), brief(x), brief(y), got, e, want)
	}
}

func wantNoRules(t *testing.T, n int, rules [][2][]int, set []int) {
	t.Helper()
	if got, e := congr.Close(n, rules, set); e != api.ErrArg || got != nil {
		t.Fatalf("P16.3: Close of %d, %s, %s: %s, %d; it should be nothing and %d", n, brief(rules), brief(set), brief(got), e, api.ErrArg)
	}
	for _, c := range [][2][]int{{set, nil}, {nil, set}, {set, set}} {
		if got, e := congr.Related(n, rules, c[0], c[1]); e != api.ErrArg || got {
			t.Fatalf("P16.3: Related of %d, %s, %s, %s: %v, %d; it should be nothing and %d", n, brief(rules), brief(c[0]), brief(c[1]), got, e, api.ErrArg)
		}
	}
}

// listOf gives the numbers of a set.
func listOf(set uint64) []int {
	var list []int
	for i := range 64 {
		if set>>i&1 == 1 {
			list = append(list, i)
		}
	}
	return list
}

func listsOf(rules []rule) [][2][]int {
	var lists [][2][]int
	for _, r := range rules {
		lists = append(lists, [2][]int{listOf(r[0]), listOf(r[1])})
	}
	return lists
}
