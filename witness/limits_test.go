package witness_test

import (
	"math/rand/v2"
	"slices"
	"strings"
	"testing"

	"wordset/api"
	"wordset/nfa"
	"wordset/testkit"
	"wordset/witness"
)

// TestMayNotBe: ErrAuto, and nothing else, whichever of both it is, whether the query asks it or not, whatever else is wrong.
func TestMayNotBe(t *testing.T) {
	good := testkit.Auto(3, 2, []int{2, 1}, []int{0, 0}, 0, 1, 1, 2, 0, 2)
	other, great := testkit.Auto(1, 3, []int{0}, []int{0}), testkit.Auto(4096, 2, nil, nil)
	wrong := append(testkit.Spoilt(good), api.Auto{Start: []int{0}}, api.Auto{Final: []int{0}}, testkit.Auto(1, 1, nil, nil, 0, 0, 1), testkit.Auto(1, 0, nil, nil, 0, 0, 0))
	for _, bad := range wrong {
		for _, beside := range []api.Auto{good, other, great, bad, {}} {
			wantNeither(t, bad, beside, api.ErrAuto)
			wantNeither(t, beside, bad, api.ErrAuto)
		}
		for _, w := range [][]int{nil, {0}, {-1}, {2}} {
			wantSets(t, bad, w, nil, api.ErrAuto)
		}
	}
}

func TestOtherSymbols(t *testing.T) {
	for first := range 4 {
		for second := range 4 {
			a, b := testkit.Auto(1, first, []int{0}, []int{0}), testkit.Auto(2, second, []int{1}, []int{1})
			if first != second {
				wantNeither(t, a, b, api.ErrSymbols)
				continue
			}
			wantShows(t, 3, a, b, nil, false, 0, api.OK)
			wantLeast(t, 2, a, b, -1, 0, nil, api.ErrNone)
		}
	}
	wantNeither(t, testkit.Auto(4096, 1, nil, nil), testkit.Auto(4096, 2, nil, nil), api.ErrSymbols)
}

// TestSizes: two automata may have together as many states and edges as one, edges that stand twice counted once; that goes ahead of the word and the budget, and for the queries that ask the first one alone.
func TestSizes(t *testing.T) {
	bare := func(states int) api.Auto { return testkit.Auto(states, 1, nil, nil) }
	full, one := testkit.Crowd(256, 65536), testkit.Circle(1, []int{0})
	for _, c := range [][2]api.Auto{{bare(4096), bare(1)}, {bare(1), bare(4096)}, {bare(2049), bare(2048)}, {full, one}, {one, full}} {
		wantNeither(t, c[0], c[1], api.ErrSize)
	}
	less := testkit.Crowd(256, 65535)
	for range 2 {
		wantLeast(t, 1, bare(4095), bare(1), -1, 1, nil, api.OK)
		wantLeast(t, 2, bare(4095), bare(1), -1, 1, nil, api.ErrNone)
		wantShows(t, 1, bare(0), bare(4096), []int{0}, true, 0, api.OK)
		for _, budget := range []int{0, 1} {
			// the crowd's last state is final and leads on, but for one edge, as all others do
			wantLeast(t, 3, less, one, -1, budget, nil, api.ErrNone)
			wantLeast(t, 1, one, less, -1, budget, nil, api.ErrNone)
			wantLeast(t, 0, less, one, -1, budget, nil, api.OK)
		}
		wantShows(t, 3, less, one, []int{0, 0, 0}, false, 0, api.OK)
		less.Edges = append(less.Edges, less.Edges[7])[:65536]
		one.Edges = slices.Repeat(one.Edges[:1], 65536)
		one.Start = slices.Repeat([]int{0}, 100000)
	}
}

// TestWrongWords: a symbol that is none, wherever it stands, behind all that is wrong with the automata.
func TestWrongWords(t *testing.T) {
	none := testkit.Auto(0, 2, nil, nil)
	for _, bad := range []int{lowest, -1, 2, greatest} {
		for _, w := range [][]int{{bad}, {0, bad}, {bad, 1}, {1, 1, bad, 0}} {
			for query := range 4 {
				wantShows(t, query, x(), y(), w, false, 0, api.ErrWord)
				wantShows(t, query, none, none, w, false, 0, api.ErrWord)
			}
			wantSets(t, x(), w, nil, api.ErrWord)
			wantSets(t, none, w, nil, api.ErrWord)
		}
	}
	wantShows(t, 0, api.Auto{}, api.Auto{}, []int{0}, false, 0, api.ErrWord)
	wantSets(t, api.Auto{}, []int{0}, nil, api.ErrWord)
}

// TestLongChain: as many states as may be, a pair for each, and one more for longer words.
func TestLongChain(t *testing.T) {
	chain, none := testkit.Chain(4096), testkit.Auto(0, 1, nil, nil)
	zeros := make([]int, 4095)
	for _, query := range []int{0, 2, 3} {
		wantBudgets(t, query, chain, none, -1, least{word: zeros, pairs: 4096})
		wantBudgets(t, query, chain, none, 4095, least{word: zeros, pairs: 4096})
		wantBudgets(t, query, chain, none, 4094, least{none: true, pairs: 4095})
	}
	wantBudgets(t, 3, none, chain, -1, least{word: zeros, pairs: 4096})
	wantBudgets(t, 2, none, chain, -1, least{none: true, pairs: 4097})
	wantShows(t, 3, none, chain, zeros, true, 2, api.OK)
}

// TestRounds: beside one loop stand circles that are left at one state each; all of them are left at once for the first time after as many steps as the product of their lengths, less one.
func TestRounds(t *testing.T) {
	one, b := testkit.Circle(1, []int{0}), api.Auto{Symbols: 1}
	product := 1
	for _, n := range []int{2, 3, 5, 7, 11, 13} {
		b = testkit.SideBySide(b, testkit.Circle(n, testkit.Upto(n-1)))
		product *= n
	}
	word := make([]int, product-1)
	wantBudgets(t, 2, one, b, -1, least{word: word, pairs: product})
	wantBudgets(t, 1, b, one, product-2, least{none: true, pairs: product - 1})
}

// TestWithoutBudget: there are more pairs than could ever be gone through, but nearly all of them make no difference.
func TestWithoutBudget(t *testing.T) {
	many := testkit.Letter(2000)
	dead := many
	dead.Final = nil
	one := testkit.Auto(2, 2, []int{0}, []int{1}, 0, 1, 1)
	wantLeast(t, 0, dead, many, -1, 0, nil, api.ErrNone)
	wantLeast(t, 2, dead, many, -1, -1, nil, api.ErrNone)
	wantLeast(t, 3, dead, dead, -1, 0, nil, api.ErrNone)
	wantLeast(t, 3, dead, one, -1, 0, []int{1}, api.OK)
	wantLeast(t, 0, one, many, -1, 0, []int{1}, api.OK)
	wantLeast(t, 2, one, many, -1, 0, []int{1}, api.OK)
	aside := testkit.SideBySide(one, dead)
	aside.Edges = append(aside.Edges, api.Edge{From: 0, Sym: 0, To: 2})
	wantLeast(t, 3, aside, one, -1, 0, nil, api.ErrNone)
	wantLeast(t, 2, aside, one, -1, 0, nil, api.ErrNone)
	all := testkit.Auto(1, 2, []int{0}, []int{0}, 0, 0, 0, 0, 1, 0)
	wantLeast(t, 1, all, many, -1, 0, nil, api.ErrNone)
	chain := testkit.Auto(4, 2, []int{0}, []int{3}, 0, 1, 1, 1, 1, 2, 2, 0, 3)
	wantLeast(t, 2, chain, testkit.SideBySide(testkit.Letter(30), chain), -1, 0, nil, api.ErrNone)
	wantLeast(t, 3, many, dead, -1, 100000, nil, api.ErrBudget)
}

// TestLetters: a pair for each way to go on; the least word that shows a no has a 1 and then zeros alone.
func TestLetters(t *testing.T) {
	a, b := testkit.Letter(13), testkit.Letter(13)
	wantBudgets(t, 3, a, b, -1, least{none: true, pairs: 4096})
	b.Final = nil
	word := append([]int{1}, make([]int, 11)...)
	for _, budget := range []int{0, 1 << 20} {
		wantLeast(t, 3, a, b, -1, budget, word, api.OK)
		wantLeast(t, 3, b, a, 12, budget, word, api.OK)
		wantLeast(t, 3, b, a, 11, budget, nil, api.ErrNone)
	}
}

// TestStateNumbers: states around the places at which a set's parts begin.
func TestStateNumbers(t *testing.T) {
	d := testkit.Draw(rand.New(rand.NewPCG(17, 8)).IntN)
	for _, n := range []int{1, 2, 7, 8, 9, 15, 16, 17, 63, 64, 65, 4095, 4096} {
		circle, none := testkit.Circle(n, []int{n - 1}), testkit.Auto(0, 1, nil, nil)
		wantBudgets(t, 0, circle, none, -1, least{word: make([]int, n-1), pairs: n})
		wantBudgets(t, 3, none, circle, -1, least{word: make([]int, n-1), pairs: n})
		sets, e := witness.Sets(circle, make([]int, 2*n))
		for i, list := range sets {
			if e != api.OK || !slices.Equal(list, []int{i % n}) {
				t.Fatalf("P17.4: a circle of %d: at %d stands %v, %d", n, i, list, e)
			}
		}
		every := api.Auto{States: n, Symbols: 1, Start: d.List(n, 2*n), Final: []int{0}}
		for p := range n {
			every.Edges = append(every.Edges, api.Edge{From: p, To: p})
		}
		start := slices.Clone(every.Start)
		slices.Sort(start)
		start = slices.Compact(start)
		wantSets(t, every, []int{0, 0}, [][]int{start, start, start}, api.OK)
	}
}

// TestLarge: as many states, symbols and edges as may be; to the last state no edge by 126 leads.
func TestLarge(t *testing.T) {
	a := api.Auto{States: 4095, Symbols: 128, Start: testkit.Upto(4095), Final: []int{4094}}
	for i := range 65536 {
		a.Edges = append(a.Edges, api.Edge{From: i % 4095, Sym: 127 - i%2, To: (i%4095 + i/4095) % 4095})
	}
	one := testkit.Auto(1, 128, []int{0}, []int{0})
	wantBudgets(t, 3, a, one, -1, least{word: []int{127}, pairs: 4})
	wantLeast(t, 1, a, one, -1, 0, []int{0}, api.OK)
	sets, e := witness.Sets(a, []int{127, 126, 0, 127})
	if e != api.OK || len(sets) != 5 || len(sets[0]) != 4095 || len(sets[3]) != 0 || len(sets[4]) != 0 {
		t.Fatalf("P17.4: %d sets, %d", len(sets), e)
	}
	for i := range 2 {
		if next, e := nfa.Post(a, sets[i], 127-i); e != api.OK || !slices.Equal(next, sets[i+1]) {
			t.Fatalf("P17.9: the set at %d is another", i+1)
		}
	}
}

// TestAllSymbols: each of as many symbols as may be leads to a state of its own, and the last one alone shows the no.
func TestAllSymbols(t *testing.T) {
	a := api.Auto{States: 129, Symbols: 128, Start: []int{128}, Final: testkit.Upto(128)}
	b := api.Auto{States: 129, Symbols: 128, Start: []int{0}, Final: testkit.Upto(128)[1:]}
	for k := 127; k >= 0; k-- {
		a.Edges = append(a.Edges, api.Edge{From: 128, Sym: k, To: k})
		b.Edges = append(b.Edges, api.Edge{From: 0, Sym: k, To: k + 1})
	}
	wantBudgets(t, 3, a, b, -1, least{word: []int{127}, pairs: 129})
	wantBudgets(t, 2, b, a, 1, least{none: true, pairs: 129})
	wantBudgets(t, 2, b, a, 2, least{none: true, pairs: 130})
	for k := range 128 {
		wantSets(t, a, []int{k, 5}, [][]int{{128}, {k}, nil}, api.OK)
	}
}

// TestLong: links, words and texts of many parts.
func TestLong(t *testing.T) {
	const n = 1 << 20
	links := []api.Link{{Parent: -1, Sym: -1}}
	word := make([]int, n)
	for i := range word {
		word[i] = i % 7
		links = append(links, api.Link{Parent: i, Sym: i % 7})
	}
	wantWord(t, links, n, word, api.OK)
	wantWord(t, links, n+1, nil, api.ErrRange)
	links[n].Parent = n
	wantWord(t, links, 0, nil, api.ErrLinks)
	names := []string{"a", "b", "c", "d", "e", "f", "g"}
	text := strings.Repeat("a b c d e f g ", n/7+1)[:2*n-1]
	wantRender(t, word, names, text, api.OK)
	wantRead(t, text, names, word, api.OK, 0)
	wantRead(t, text+" h", names, nil, api.ErrForm, 2*n)
	wantRead(t, strings.Repeat(" \t", n), names, nil, api.ErrForm, 2*n)
	wantRead(t, strings.Repeat("a", n), names, nil, api.ErrForm, 0)
	circle := testkit.Circle(7, []int{0})
	zeros := make([]int, n)
	sets, e := witness.Sets(circle, zeros)
	if e != api.OK || len(sets) != n+1 || !slices.Equal(sets[n], []int{n % 7}) {
		t.Fatalf("P17.4: a word of %d symbols: %d sets, %d", n, len(sets), e)
	}
	wantShows(t, 0, circle, circle, zeros[:7*1000], true, 0, api.OK)
	wantShows(t, 1, circle, circle, zeros, true, 0, api.OK)
}

// TestManyNames: there is no most of them.
func TestManyNames(t *testing.T) {
	var list []string
	for i := range 20000 {
		list = append(list, strings.Repeat("x", i%8)+strings.Repeat("y", i/8%8)+string([]byte{byte('A' + i/64%26), byte('A' + i/64/26)}))
	}
	wantRender(t, []int{19999, 0}, list, list[19999]+" "+list[0], api.OK)
	wantRead(t, list[19999]+"\t"+list[5000], list, []int{19999, 5000}, api.OK, 0)
	wantRender(t, []int{20000}, list, "", api.ErrWord)
	twice := append(slices.Clone(list), list[7])
	wantRender(t, []int{0}, twice, "", api.ErrTwice)
	wantRead(t, "", twice, nil, api.ErrTwice, 0)
	wantRead(t, "", append(twice, "é"), nil, api.ErrName, 0)
}

// question is what all calls are asked with.
type question struct {
	links        []api.Link
	at, query    int
	a, b         api.Auto
	most, budget int
	w            []int
	names        []string
	text         string
}

func ask(q question) testkit.Answers {
	var x testkit.Answers
	x.List(witness.Word(q.links, q.at))
	is, side, e := witness.Shows(q.query, q.a, q.b, q.w)
	x.Truth(is, e)
	x.Counts = append(x.Counts, side)
	x.List(witness.Least(q.query, q.a, q.b, q.most, q.budget))
	x.Group(witness.Sets(q.a, q.w))
	x.Text(witness.Render(q.w, q.names))
	w, p := witness.Read(q.text, q.names)
	x.List(w, p.Code)
	x.Places = append(x.Places, p.At)
	return x
}

// codes says what codes they should answer, and the offset of the last.
func (q question) codes() ([]api.Errno, int) {
	word := api.OK
	if words := wordsOf(q.links); words == nil {
		word = api.ErrLinks
	} else if q.at < 0 || q.at >= len(words) {
		word = api.ErrRange
	}
	odd := func(symbols int) bool {
		return slices.ContainsFunc(q.w, func(k int) bool { return k < 0 || k >= symbols })
	}
	_, shows := nfa.Union(q.a, q.b)
	least := shows
	if shows == api.OK && odd(q.a.Symbols) {
		shows = api.ErrWord
	}
	if least == api.OK {
		l := byPairs(q.query&3, q.a, q.b, q.most)
		if q.budget > 0 && l.pairs > q.budget {
			least = api.ErrBudget
		} else if l.none {
			least = api.ErrNone
		}
	}
	sets := nfa.Valid(q.a)
	if sets == api.OK && odd(q.a.Symbols) {
		sets = api.ErrWord
	}
	_, render := rendered(q.w, q.names)
	_, p := read(q.text, q.names)
	return []api.Errno{word, shows, least, sets, render, p.Code}, p.At
}

// odd draws what may be and what may not, most of it small.
func odd(d testkit.Draw) question {
	q := question{at: d.Odd(), query: d.Odd(), most: d.Odd(), budget: d.Odd(), w: d.List(2, d(4))}
	q.a, q.b = d.Two(5, 2)
	switch d(8) {
	case 0:
		q.a = d.OddAuto()
	case 1:
		q.b = d.OddAuto()
	case 2:
		q.a, q.b = d.OddAuto(), d.OddAuto()
	case 3:
		q.b.Symbols = d(4)
	case 4:
		q.w = d.OddList()
	}
	for n := range d(5) {
		link := api.Link{Parent: -1, Sym: -1}
		if n > 0 && d(4) > 0 {
			link = api.Link{Parent: d(n), Sym: d(3)}
		}
		if d(12) == 0 {
			link = api.Link{Parent: d.Odd(), Sym: d.Odd()}
		}
		q.links = append(q.links, link)
	}
	pool := []string{"a", "b", "c", "d", "e", "f", "a'", "b_", "-", "", "()"}
	for range d(4) {
		q.names = append(q.names, pool[min(d(len(pool)), d(len(pool)))])
		q.text += pool[d(len(pool))] + " \t "[d(3):]
	}
	return q
}

// large tells whether an automaton that may be is too large for the model.
func large(a api.Auto) bool {
	return a.States > 60 && a.States <= api.MaxStates || a.Symbols > 5 && a.Symbols <= api.MaxSymbols
}

// TestOdd: no call panics, beside an error stands nothing, and the errors come in their order.
func TestOdd(t *testing.T) {
	d := testkit.Draw(rand.New(rand.NewPCG(17, 9)).IntN)
	seen := map[api.Errno]int{}
	for range 20000 {
		q := odd(d)
		x := ask(q)
		if _, e := nfa.Union(q.a, q.b); e == api.OK && (large(q.a) || large(q.b)) {
			continue // what is answered of so many states is looked at elsewhere
		}
		codes, at := q.codes()
		if !slices.Equal(x.Codes, codes) || x.Places[0] != at {
			t.Fatalf("P17.10: %+v: %v, the last at %d; it should be %v at %d", q, x.Codes, x.Places[0], codes, at)
		}
		if codes[0] != api.OK && x.Lists[0] != nil || codes[1] != api.OK && (x.Truths[0] || x.Counts[0] != 0) || codes[2] != api.OK && x.Lists[1] != nil || codes[3] != api.OK && x.Groups[0] != nil || codes[4] != api.OK && x.Texts[0] != "" || codes[5] != api.OK && x.Lists[2] != nil {
			t.Fatalf("P17.10: %+v: beside an error stands something: %+v", q, x)
		}
		for _, e := range codes {
			seen[e]++
		}
	}
	for _, e := range []api.Errno{api.OK, api.ErrAuto, api.ErrSymbols, api.ErrSize, api.ErrWord, api.ErrBudget, api.ErrNone, api.ErrLinks, api.ErrRange, api.ErrName, api.ErrTwice, api.ErrForm} {
		if seen[e] == 0 {
			t.Errorf("P17.10: nothing that was drawn led to %d: %v", e, seen)
		}
	}
}

func TestMemory(t *testing.T) {
	d := testkit.Draw(rand.New(rand.NewPCG(17, 10)).IntN)
	for i := range 3000 {
		q := odd(d)
		if i%2 == 0 {
			q.a, q.b = d.Related(5, 2)
		}
		var same [5]func() bool
		q.a, same[0] = testkit.RoomyAuto(q.a)
		q.b, same[1] = testkit.RoomyAuto(q.b)
		q.links, same[2] = testkit.Roomy(q.links, api.Link{})
		q.w, same[3] = testkit.Roomy(q.w, 0)
		q.names, same[4] = testkit.Roomy(q.names, "room")
		unchanged := func() bool {
			return !slices.ContainsFunc(same[:], func(same func() bool) bool { return !same() })
		}
		if wrong := testkit.Memory(func() testkit.Answers { return ask(q) }, unchanged); wrong != "" {
			t.Fatalf("P17.10: %s: %+v", wrong, q)
		}
	}
}

// TestOrderMakesNoDifference: all lists of automata may be handed in in any order, with doubles.
func TestOrderMakesNoDifference(t *testing.T) {
	d := testkit.Draw(rand.New(rand.NewPCG(17, 11)).IntN)
	for range 1000 {
		q := odd(d)
		q.a, q.b = d.Related(6, 2)
		x := ask(q)
		p, r := q, q
		p.a, p.b = d.Shuffled(q.a), d.Shuffled(q.b)
		r.a, r.b = testkit.InOrder(q.a), testkit.InOrder(q.b)
		if !x.Same(ask(p)) || !x.Same(ask(r)) {
			t.Fatalf("P17.10: other answers in another order: %+v", q)
		}
	}
}
