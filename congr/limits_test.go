package congr_test

import (
	"math/rand/v2"
	"slices"
	"testing"

	"wordset/api"
	"wordset/congr"
	"wordset/nfa"
	"wordset/testkit"
)

// TestMayNotBe: ErrAuto, and nothing else, whichever of both it is, whatever else is wrong.
func TestMayNotBe(t *testing.T) {
	good := testkit.Auto(3, 2, []int{2, 1}, []int{0, 0}, 0, 1, 1, 2, 0, 2)
	other, great := testkit.Auto(1, 3, []int{0}, []int{0}), testkit.Auto(4096, 2, nil, nil)
	wrong := append(testkit.Spoilt(good), api.Auto{Start: []int{0}}, api.Auto{Final: []int{0}}, testkit.Auto(1, 1, nil, nil, 0, 0, 1), testkit.Auto(1, 0, nil, nil, 0, 0, 0))
	for _, bad := range wrong {
		for _, beside := range []api.Auto{good, other, great, bad, {}} {
			for _, budget := range []int{0, 1, -1} {
				wantNone(t, bad, beside, budget, api.ErrAuto)
				wantNone(t, beside, bad, budget, api.ErrAuto)
			}
		}
	}
}

func TestOtherSymbols(t *testing.T) {
	for first := range 4 {
		for second := range 4 {
			a, b := testkit.Auto(1, first, []int{0}, []int{0}), testkit.Auto(2, second, []int{1}, []int{1})
			if first == second {
				want(t, question{a: a, b: b, budget: 1}, yes(1), yes(1))
			} else {
				wantNone(t, a, b, 1, api.ErrSymbols)
			}
		}
	}
	wantNone(t, testkit.Auto(4096, 1, nil, nil), testkit.Auto(4096, 2, nil, nil), 0, api.ErrSymbols)
}

// TestSizes: two automata may have together as many states and edges as one, edges that stand twice counted once. What is too much is told ahead of the search and its budget, and ahead of trimming: the useful parts have no state at all.
func TestSizes(t *testing.T) {
	bare := func(states int) api.Auto { return testkit.Auto(states, 1, nil, nil) }
	full, one := testkit.Crowd(256, 65536), all()
	full.Start = nil
	for _, c := range [][2]api.Auto{{bare(4096), bare(1)}, {bare(1), bare(4096)}, {bare(2049), bare(2048)}, {full, one}, {one, full}} {
		for _, budget := range []int{0, 1, -1, most} {
			wantNone(t, c[0], c[1], budget, api.ErrSize)
		}
	}
	less := testkit.Crowd(256, 65535)
	for range 2 {
		for _, o := range options {
			want(t, question{bare(4095), bare(1), o, 1}, yes(0), yes(0))
			want(t, question{bare(0), bare(4096), o, 1}, yes(0), yes(0))
			// the crowd's last state is final and leads on, but for one edge, as all others do
			want(t, question{less, one, o, 0}, yes(1), yes(1))
			want(t, question{one, less, o, 0}, yes(1), yes(1))
		}
		less.Edges = append(less.Edges, less.Edges[7])[:65536]
		one.Edges = slices.Repeat(one.Edges[:1], 65536)
		one.Start = slices.Repeat([]int{0}, 100000)
	}
}

// TestLongChain: as many states as may be, one pair for each but the last, which ends the search.
func TestLongChain(t *testing.T) {
	none := testkit.Auto(0, 1, nil, nil)
	zeros := make([]int, 4095)
	for _, o := range []api.Options{{}, {Trim: true}} {
		want(t, question{testkit.Chain(4096), none, o, 4095}, no(1, 4095, zeros...), no(1, 4095, zeros...))
		want(t, question{testkit.Chain(2048), testkit.Chain(2048), o, 0}, yes(2048), yes(2048))
	}
	wantPlain(t, none, testkit.Chain(4096), no(2, 4095, zeros...), yes(0))
	wantNone(t, testkit.Chain(2000), none, 1998, api.ErrBudget)
}

// spelt takes one word alone.
func spelt(symbols int, word []int) api.Auto {
	a := api.Auto{States: len(word) + 1, Symbols: symbols, Start: []int{0}, Final: []int{len(word)}}
	for i, k := range word {
		a.Edges = append(a.Edges, api.Edge{From: i, Sym: k, To: i + 1})
	}
	return a
}

// TestLongWords: a word of each length around those at which it is put together in several parts.
func TestLongWords(t *testing.T) {
	d := testkit.Draw(rand.New(rand.NewPCG(16, 6)).IntN)
	for _, length := range []int{0, 1, 2, 3, 999, 1000, 1001, 1002, 1999, 2000, 2001, 2002} {
		word := d.List(128, length)
		want(t, question{a: spelt(128, word), b: testkit.Auto(0, 128, nil, nil)}, no(1, length, word...), no(1, length, word...))
		want(t, question{b: spelt(128, word), a: testkit.Auto(0, 128, nil, nil)}, no(2, length, word...), yes(0))
	}
}

// TestCircles: circles whose lengths have nothing in common: after so many pairs as there are states, but for one, all states are alike by what is known, and what is found from then on is left out.
func TestCircles(t *testing.T) {
	for _, n := range []int{1, 2, 3, 8, 64, 65, 66, 129, 1000} {
		m := n + 1
		a, b := testkit.Circle(n, testkit.Upto(n)), testkit.Circle(m, testkit.Upto(m))
		f, e := congr.Equal(a, b, api.Options{}, n+m-1)
		if e != api.OK || !testkit.SameFound(f, yes(n+m-1)) {
			t.Fatalf("P16.1: circles of %d and %d: %v, %d", n, m, f, e)
		}
		b.Final = b.Final[:n]
		wantPlain(t, a, b, no(1, n, make([]int, n)...), no(1, n, make([]int, n)...))
	}
}

// TestRounds: beside one loop stand circles that are left at one state each; all of them are left at once for the first time after as many steps as the product of their lengths, less one.
func TestRounds(t *testing.T) {
	b := api.Auto{Symbols: 1}
	product := 1
	for _, n := range []int{2, 3, 5, 7, 11} {
		c := testkit.Circle(n, testkit.Upto(n-1))
		b = testkit.SideBySide(b, c)
		product *= n
	}
	word := make([]int, product-1)
	wantPlain(t, all(), b, no(1, product-1, word...), no(1, product-1, word...))
}

// TestLetters: each of both would have 2^2047 sets; a few pairs are enough.
func TestLetters(t *testing.T) {
	wantPlain(t, testkit.Letter(2048), testkit.Letter(2048), yes(2048), yes(2048))
}

// TestLettersLost: of the second automaton's states all but the first have lost their edges by the symbol 1, so that it lacks words of the first, none of them short.
func TestLettersLost(t *testing.T) {
	const n = 60
	a, b := testkit.Letter(n), testkit.Letter(n)
	b.Edges = slices.DeleteFunc(b.Edges, func(e api.Edge) bool { return e.Sym == 1 && e.From > 0 })
	for _, search := range []func(a, b api.Auto, o api.Options, budget int) (api.Found, api.Errno){congr.Equal, congr.Include} {
		f, e := search(a, b, api.Options{}, 0)
		if e != api.OK || !f.Has || f.Side != 1 || len(f.Word) < n-1 || len(f.Word) > f.Pairs || !testkit.Reads(a, f.Word) || testkit.Reads(b, f.Word) {
			t.Fatalf("P16.4: %v, %d", f, e)
		}
	}
}

// TestLarge: as many states, symbols and edges as may be, all states alike.
func TestLarge(t *testing.T) {
	a := api.Auto{States: 2048, Symbols: 128, Start: testkit.Upto(2048), Final: testkit.Upto(2048)}
	for p := range 2048 {
		for i := range 16 {
			a.Edges = append(a.Edges, api.Edge{From: p, Sym: 127, To: (p + i) % 2048})
		}
	}
	wantPlain(t, a, a, yes(1), yes(1))
	b := a
	b.Final = nil
	wantPlain(t, b, a, no(2, 0), yes(1))
	b.Final = a.Final
	b.Edges = b.Edges[:len(b.Edges)-16]
	b.Start = []int{2047}
	wantPlain(t, a, b, no(1, 1, 127), no(1, 1, 127))
}

// TestAllSymbols: one pair for each of as many symbols as may be, found in their order; then the last one is bad.
func TestAllSymbols(t *testing.T) {
	a := api.Auto{States: 129, Symbols: 128, Start: []int{128}}
	b := api.Auto{States: 129, Symbols: 128, Start: []int{0}}
	for k := 127; k >= 0; k-- {
		a.Edges = append(a.Edges, api.Edge{From: 128, Sym: k, To: k})
		b.Edges = append(b.Edges, api.Edge{From: 0, Sym: k, To: k + 1})
	}
	want(t, question{a: a, b: b, budget: 129}, yes(129), yes(129))
	a.Final, b.Final = testkit.Upto(128), testkit.Upto(129)[1:]
	want(t, question{a: a, b: b, budget: 129}, yes(129), yes(129))
	wantNone(t, a, b, 128, api.ErrBudget)
	b.Final = b.Final[:127]
	want(t, question{a: a, b: b, budget: 1}, no(1, 1, 127), no(1, 1, 127))
}

// TestRuleSizes: the bounds of n, and what lies outside it.
func TestRuleSizes(t *testing.T) {
	for _, n := range []int{lowest, -1, 8193, most} {
		wantNoRules(t, n, nil, nil)
		wantNoRules(t, n, [][2][]int{{nil, nil}}, nil)
	}
	for _, n := range []int{0, 1, 64, 8192} {
		wantClose(t, n, [][2][]int{{nil, nil}}, nil, nil)
		wantRelated(t, n, nil, nil, []int{}, true)
		good := testkit.Upto(n)
		for _, wrong := range []int{lowest, -1, n, most} {
			list := append(slices.Clone(good), wrong)
			wantNoRules(t, n, nil, list)
			wantNoRules(t, n, [][2][]int{{good, nil}, {list, good}}, nil)
			wantNoRules(t, n, [][2][]int{{good, nil}, {nil, list}}, nil)
		}
	}
	wantClose(t, 8192, [][2][]int{{{8191}, {0}}}, []int{8191}, []int{0, 8191})
}

// TestLongRules: rules of which each one leads to the next, in their order, the other way round and mixed; each side of many numbers.
func TestLongRules(t *testing.T) {
	d := testkit.Draw(rand.New(rand.NewPCG(16, 7)).IntN)
	const n = 8192
	up := make([][2][]int, n-1)
	for i := range up {
		up[i] = [2][]int{{i}, {i + 1}}
	}
	down := slices.Clone(up)
	slices.Reverse(down)
	for _, rules := range [][][2][]int{up, down, slices.Concat(up, down, up)} {
		for _, from := range []int{0, n / 2, n - 1} {
			wantClose(t, n, rules, []int{from}, testkit.Upto(n))
			wantRelated(t, n, rules, []int{from}, []int{d(n)}, true)
			wantRelated(t, n, rules, nil, []int{d(n)}, false)
		}
	}
	gap := slices.Concat(up[:n/2], up[n/2+1:])
	wantClose(t, n, gap, []int{0}, testkit.Upto(n/2+1))
	wantRelated(t, n, gap, []int{0, n - 1}, []int{n / 2, n/2 + 1}, true)
	wantRelated(t, n, gap, []int{0, n / 2}, []int{n / 2, n/2 + 1}, false)
}

// TestGrowingRules: each rule asks for all numbers that the ones ahead of it have given.
func TestGrowingRules(t *testing.T) {
	const n = 1500
	var rules [][2][]int
	for i := n - 1; i > 0; i-- {
		rules = append(rules, [2][]int{testkit.Upto(i), {i}})
	}
	wantClose(t, n, rules, []int{0}, testkit.Upto(n))
	wantClose(t, n, rules, []int{1}, testkit.Upto(n))
	wantClose(t, n, nil, []int{1}, []int{1})
	wantRelated(t, n, rules, []int{0}, []int{n - 1}, true)
	wantRelated(t, n, rules[:n-2], []int{0}, []int{n - 1}, false)
}

// TestMillionRules: rules cost as much room as their lists, not as much as n.
func TestMillionRules(t *testing.T) {
	rules := slices.Repeat([][2][]int{{{8190}, {8191, 0}}, {{1, 2}, {3}}}, 1<<19)
	wantClose(t, 8192, rules, []int{8190}, []int{0, 8190, 8191})
	wantClose(t, 8192, rules, []int{1}, []int{1})
}

// odd draws what may be and what may not, most of it small.
func odd(d testkit.Draw) question {
	a, b := d.Two(5, 2)
	q := question{a, b, options[d(4)], d.Odd()}
	switch d(6) {
	case 0:
		q.a = d.OddAuto()
	case 1:
		q.b = d.OddAuto()
	case 2:
		q.a, q.b = d.OddAuto(), d.OddAuto()
	case 3:
		q.b.Symbols = d(4)
	}
	return q
}

// large tells whether an automaton that may be is too large for the model.
func large(a api.Auto) bool { return a.States > 20 && a.States <= api.MaxStates }

// wantCodes says what codes both searches should answer.
func wantCodes(q question) [2]api.Errno {
	if _, e := nfa.Union(q.a, q.b); e != api.OK {
		return [2]api.Errno{e, e}
	}
	var codes [2]api.Errno
	for i, f := range answers(q.a, q.b, q.options.Trim) {
		if q.budget > 0 && f.Pairs > q.budget {
			codes[i] = api.ErrBudget
		}
	}
	return codes
}

// TestOdd: no search panics, beside an error stands nothing, and the errors come in their order.
func TestOdd(t *testing.T) {
	d := testkit.Draw(rand.New(rand.NewPCG(16, 8)).IntN)
	seen := map[api.Errno]int{}
	for range 20000 {
		q := odd(d)
		if _, e := nfa.Union(q.a, q.b); e == api.OK && (large(q.a) || large(q.b)) {
			ask(q) // what is answered of so many states is looked at elsewhere
			continue
		}
		codes := wantCodes(q)
		f, e := congr.Equal(q.a, q.b, q.options, q.budget)
		g, e2 := congr.Include(q.a, q.b, q.options, q.budget)
		if e != codes[0] || e2 != codes[1] || e != api.OK && !testkit.SameFound(f, api.Found{}) || e2 != api.OK && !testkit.SameFound(g, api.Found{}) {
			t.Fatalf("P16.6: %v: %v, %d, %v, %d; the codes should be %v", q, f, e, g, e2, codes)
		}
		seen[e]++
	}
	for _, e := range []api.Errno{api.OK, api.ErrAuto, api.ErrSymbols, api.ErrSize, api.ErrBudget} {
		if seen[e] == 0 {
			t.Errorf("P16.6: nothing that was drawn led to %d: %v", e, seen)
		}
	}
}

// oddRules draws what may be asked of rules and what may not.
func oddRules(d testkit.Draw) rewriting {
	q := rewriting{n: 3 + d(5)}
	if d(4) == 0 {
		q.n = d.Odd()
	}
	list := func() []int {
		if d(8) == 0 {
			return d.OddList()
		}
		return d.List(3, d(3))
	}
	for range d(4) {
		q.rules = append(q.rules, [2][]int{list(), list()})
	}
	q.x, q.y = list(), list()
	return q
}

// fits tells whether all numbers lie below n.
func (q rewriting) fits(lists ...[]int) bool {
	for _, r := range q.rules {
		lists = append(lists, r[0], r[1])
	}
	for _, l := range lists {
		if slices.ContainsFunc(l, func(i int) bool { return i < 0 || i >= q.n }) {
			return false
		}
	}
	return q.n >= 0 && q.n <= 8192
}

func TestOddRules(t *testing.T) {
	d := testkit.Draw(rand.New(rand.NewPCG(16, 9)).IntN)
	seen := map[api.Errno]int{}
	for range 20000 {
		q := oddRules(d)
		for i, fits := range []bool{q.fits(q.x), q.fits(q.y), q.fits(q.x, q.y)} {
			want := api.OK
			if !fits {
				want = api.ErrArg
			}
			x := askRules(q)
			if x.Codes[i] != want || want != api.OK && i < 2 && x.Lists[i] != nil || want != api.OK && i == 2 && x.Truths[0] {
				t.Fatalf("P16.3: %v, call %d: %v; it should be %d", q, i, x, want)
			}
			seen[want]++
		}
	}
	if seen[api.OK] < 1000 || seen[api.ErrArg] < 1000 {
		t.Errorf("P16.3: what was drawn led to %v", seen)
	}
}

func TestMemory(t *testing.T) {
	d := testkit.Draw(rand.New(rand.NewPCG(16, 10)).IntN)
	for i := range 3000 {
		q := odd(d)
		if i%2 == 0 {
			q.a, q.b = d.Related(5, 2)
		}
		if large(q.a) && q.a.States > 64 || large(q.b) && q.b.States > 64 {
			continue
		}
		var same [2]func() bool
		q.a, same[0] = testkit.RoomyAuto(q.a)
		q.b, same[1] = testkit.RoomyAuto(q.b)
		if wrong := testkit.Memory(func() testkit.Answers { return ask(q) }, func() bool { return same[0]() && same[1]() }); wrong != "" {
			t.Fatalf("P16.6: %s: %v", wrong, q)
		}
	}
}

func TestMemoryOfRules(t *testing.T) {
	d := testkit.Draw(rand.New(rand.NewPCG(16, 11)).IntN)
	for range 3000 {
		q := oddRules(d)
		var looks []func() bool
		roomy := func(list []int) []int {
			out, same := testkit.Roomy(list, 0)
			looks = append(looks, same)
			return out
		}
		q.x, q.y = roomy(q.x), roomy(q.y)
		rules := q.rules
		q.rules = make([][2][]int, 0, len(rules)+2)
		for _, r := range append(rules, [2][]int{{1}, {2}}) {
			q.rules = append(q.rules, [2][]int{roomy(r[0]), roomy(r[1])})
		}
		whole := slices.Clone(q.rules)
		q.rules = q.rules[:len(rules)] // the last one is spare room
		unchanged := func() bool {
			for i, r := range q.rules[:len(whole)] {
				if !slices.Equal(r[0], whole[i][0]) || !slices.Equal(r[1], whole[i][1]) {
					return false
				}
			}
			return !slices.ContainsFunc(looks, func(same func() bool) bool { return !same() })
		}
		if wrong := testkit.Memory(func() testkit.Answers { return askRules(q) }, unchanged); wrong != "" {
			t.Fatalf("P16.6: %s: %v", wrong, q)
		}
	}
}

// TestOrderMakesNoDifference: all lists may be handed in in any order, with doubles.
func TestOrderMakesNoDifference(t *testing.T) {
	d := testkit.Draw(rand.New(rand.NewPCG(16, 12)).IntN)
	for range 1000 {
		a, b := d.Related(6, 2)
		for _, o := range options {
			x := ask(question{a, b, o, 0})
			if !x.Same(ask(question{d.Shuffled(a), d.Shuffled(b), o, 0})) || !x.Same(ask(question{testkit.InOrder(a), testkit.InOrder(b), o, 0})) {
				t.Fatalf("P16.6: other answers in another order: %v, %v, %v", a, b, o)
			}
		}
	}
}
