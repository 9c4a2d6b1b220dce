package count_test

import (
	"math/rand/v2"
	"slices"
	"testing"

	"wordset/api"
	"wordset/count"
	"wordset/nfa"
	"wordset/testkit"
)

func TestMayNotBe(t *testing.T) {
	good := testkit.Auto(3, 2, []int{2, 1}, []int{0, 0}, 0, 1, 1, 2, 0, 2)
	for _, bad := range append(testkit.Spoilt(good), api.Auto{Start: []int{0}}, api.Auto{Final: []int{0}}, testkit.Auto(1, 1, nil, nil, 0, 0, 1), testkit.Auto(1, 0, nil, nil, 0, 0, 0)) {
		wantAll(t, bad, api.ErrAuto)
	}
}

func TestWrongArguments(t *testing.T) {
	for _, a := range []api.Auto{every(), few(), {}} {
		for _, n := range []int{-1, lowest} {
			for _, budget := range []int{0, 1, -1, greatest} {
				wantByLength(t, a, n, budget, nil, api.ErrArg)
				wantByLength(t, a, 200-n, budget, nil, api.ErrArg)
				wantFirst(t, a, n, budget, nil, api.ErrArg)
			}
		}
		for _, k := range []int{lowest, -1, 2, greatest} {
			for _, w := range [][]int{{k}, {0, k}, {k, 0}, {0, 1, k, 0, 1}} {
				wantRuns(t, a, w, "0")
			}
		}
	}
}

// TestNoSymbols: the empty word is all that there can be.
func TestNoSymbols(t *testing.T) {
	a := testkit.Auto(2, 0, []int{1, 0}, []int{1})
	wantSets(t, a, 200, 1, append([]string{"1"}, slices.Repeat([]string{"0"}, 200)...))
	wantWords(t, a, greatest, [][]int{{}})
	wantRuns(t, a, nil, "1")
	wantLongest(t, a, 0)
	wantAmbiguous(t, a, false, nil, api.OK)
	a.Final = []int{1, 0, 1}
	wantRuns(t, a, nil, "2")
	wantAmbiguous(t, a, true, nil, api.OK)
	wantSets(t, api.Auto{}, 1, 0, digits(0, 0))
	wantWords(t, api.Auto{}, greatest, nil)
}

// TestDoubles: what stands twice is there once.
func TestDoubles(t *testing.T) {
	a := api.Auto{States: 1, Symbols: 1, Start: slices.Repeat([]int{0}, 100000), Final: slices.Repeat([]int{0}, 100000), Edges: slices.Repeat([]api.Edge{{}}, 65536)}
	wantSets(t, a, 2, 1, digits(1, 1, 1))
	wantRuns(t, a, []int{0, 0, 0}, "1")
	wantAmbiguous(t, a, false, nil, api.OK)
	wantWords(t, a, 3, [][]int{{}, {0}, {0, 0}})
	wantLongest(t, a, -2)
}

// TestUselessStates: they count as states of sets, and for nothing else.
func TestUselessStates(t *testing.T) {
	dead := testkit.Letter(6)
	dead.Final = nil
	a := testkit.SideBySide(few(), dead)
	wantSets(t, a, 200, setsOf(a, 200), append(digits(0, 1, 1), slices.Repeat([]string{"0"}, 198)...))
	wantWords(t, a, 5, [][]int{{0}, {0, 1}})
	wantLongest(t, a, 2)
	wantAmbiguous(t, a, false, nil, api.OK)
	wantRuns(t, a, []int{0, 1}, "1")
	// far more sets, and lists of states, than could ever be gone through, none of which makes a difference
	crowd := testkit.Crowd(200, 40000)
	crowd.Final = nil
	wantRuns(t, crowd, make([]int, 1<<20), "0")
	many := testkit.Letter(2000)
	many.Final = nil
	a = testkit.SideBySide(few(), many)
	wantByLength(t, a, 3, 0, digits(0, 1, 1, 0), api.OK)
	wantByLength(t, a, 200, -1, append(digits(0, 1, 1), slices.Repeat([]string{"0"}, 198)...), api.OK)
	wantByLength(t, a, 200, 100000, nil, api.ErrBudget)
}

// TestLetters: there are as many sets as ways to go on, or, read backwards, just a few.
func TestLetters(t *testing.T) {
	numbers := func(n int) []string {
		list := slices.Repeat([]string{"0"}, n-1)
		for k := n - 2; len(list) < 201; k++ {
			list = append(list, power(2, int64(k)))
		}
		return list
	}
	wantSets(t, testkit.Letter(12), 200, 2048, numbers(12))
	wantByLength(t, testkit.Letter(100), 200, 0, numbers(100), api.OK)
	back, _ := nfa.Reverse(testkit.Letter(100))
	wantByLength(t, back, 200, 0, numbers(100), api.OK)
	wantByLength(t, testkit.Letter(100), 200, 100000, nil, api.ErrBudget)
	// more sets than are tried at first, both ways
	both, _ := nfa.Union(testkit.Letter(13), mirrored(13))
	if l, e := count.ByLength(both, 200, 0); e != api.OK || len(l) != 201 || l[12] != "3072" || l[11] != "0" || l[24] != "12582912" {
		t.Errorf("P19.2: %v, %d", l[:min(30, len(l))], e)
	}
}

func mirrored(n int) api.Auto {
	a, _ := nfa.Reverse(testkit.Letter(n))
	return a
}

// TestAllSymbols: as many symbols as may be.
func TestAllSymbols(t *testing.T) {
	a := testkit.Auto(1, 128, []int{0}, []int{0})
	var want []string
	var words [][]int
	for n := range 201 {
		want = append(want, power(128, int64(n)))
	}
	for k := 127; k >= 0; k-- {
		a.Edges = append(a.Edges, api.Edge{Sym: k})
	}
	wantSets(t, a, 200, 1, want)
	words = testkit.Words(128, 2)
	wantWords(t, a, len(words), words)
	// each symbol leads to a state of its own
	b := api.Auto{States: 129, Symbols: 128, Start: []int{128}, Final: testkit.Upto(128)}
	for k := 127; k >= 0; k-- {
		b.Edges = append(b.Edges, api.Edge{From: 128, Sym: k, To: k})
	}
	wantSets(t, b, 0, 1, digits(0))
	wantSets(t, b, 1, 129, digits(0, 128))
	wantSets(t, b, 200, 129, append(digits(0, 128), slices.Repeat([]string{"0"}, 199)...))
	wantWords(t, b, greatest, testkit.Words(128, 1)[1:])
	wantAmbiguous(t, b, false, nil, api.OK)
	b.Edges = append(b.Edges, api.Edge{From: 128, Sym: 126, To: 3})
	wantAmbiguous(t, b, true, []int{126}, api.OK)
	wantRuns(t, b, []int{126}, "2")
}

// TestLongChain: as many states as may be, one behind the other, all of them by two symbols.
func TestLongChain(t *testing.T) {
	a := testkit.Chain(4096)
	wantLongest(t, a, 4095)
	wantWords(t, a, 5, [][]int{make([]int, 4095)})
	wantRuns(t, a, make([]int, 4095), "1")
	wantRuns(t, a, make([]int, 4096), "0")
	wantSets(t, a, 200, 201, slices.Repeat([]string{"0"}, 201))
	for _, e := range slices.Clone(a.Edges) {
		a.Edges = append(a.Edges, api.Edge{From: e.From, Sym: 1, To: e.To})
	}
	a.Symbols = 2
	words, e := count.First(a, 1000, 0)
	if e != api.OK || len(words) != 1000 {
		t.Fatalf("P19.4: %d words, %d", len(words), e)
	}
	for i, w := range words {
		value := 0
		for _, k := range w[4095-10:] {
			value = 2*value + k
		}
		if len(w) != 4095 || value != i || slices.Contains(w[:4095-10], 1) {
			t.Fatalf("P19.4: the word at %d is another", i)
		}
	}
	wantLongest(t, a, 4095)
	a.Edges = append(a.Edges, api.Edge{From: 4095, Sym: 0, To: 4095})
	wantLongest(t, a, -2)
	a.Edges[len(a.Edges)-1].To = 0
	wantLongest(t, a, -2)
}

// TestLongWords: words with as many symbols as no calls could be nested.
func TestLongWords(t *testing.T) {
	words, e := count.First(testkit.Circle(4096, []int{5}), 60, 0)
	if e != api.OK || len(words) != 60 {
		t.Fatalf("P19.4: %d words, %d", len(words), e)
	}
	for i, w := range words {
		if len(w) != 4096*i+5 {
			t.Fatalf("P19.4: a word of %d symbols at %d", len(w), i)
		}
	}
	wantFirst(t, testkit.Circle(4096, []int{5}), greatest, 1000000, nil, api.ErrBudget)
}

// TestPartings: words of thousands of symbols that can be left for another word nearly everywhere: any number of zeros, a one, any number of zeros, of a length that n divides.
func TestPartings(t *testing.T) {
	const n = 1000
	a := api.Auto{States: 2 * n, Symbols: 2, Start: []int{0}, Final: []int{n}}
	for p := range n {
		next := (p + 1) % n
		a.Edges = append(a.Edges, api.Edge{From: p, To: next}, api.Edge{From: n + p, To: n + next}, api.Edge{From: p, Sym: 1, To: n + next})
	}
	words, e := count.First(a, 3*n+1, 0)
	if e != api.OK || len(words) != 3*n+1 {
		t.Fatalf("P19.4: %d words, %d", len(words), e)
	}
	for i, w := range words {
		length, at := n, i
		if i >= n {
			length, at = 2*n, i-n
		}
		if i >= 3*n {
			length, at = 3*n, i-3*n
		}
		if len(w) != length || slices.Index(w, 1) != length-1-at {
			t.Fatalf("P19.4: the word at %d has %d symbols and its one at %d", i, len(w), slices.Index(w, 1))
		}
	}
}

// TestManyEdges: as many edges as may be; each word has as many paths as there are lists of states.
func TestManyEdges(t *testing.T) {
	a := testkit.Crowd(256, 65536)
	wantRuns(t, a, nil, "256")
	wantRuns(t, a, make([]int, 99), power(256, 100))
	wantAmbiguous(t, a, true, nil, api.OK)
	wantSets(t, a, 200, 1, slices.Repeat([]string{"1"}, 201))
	wantLongest(t, a, -2)
	// it parts at once, but a word comes to its end late
	a.Start, a.Final = []int{0}, []int{255}
	a.Edges = slices.DeleteFunc(a.Edges, func(e api.Edge) bool { return e.To > 200 && e.From != e.To-1 })
	wantAmbiguous(t, a, true, make([]int, 57), api.OK)
	wantRuns(t, a, make([]int, 56), "1")
	wantRuns(t, a, make([]int, 57), "201")
	wide := api.Auto{States: 4096, Symbols: 128, Start: testkit.Upto(4096), Final: []int{4095}}
	for i := range 65536 {
		wide.Edges = append(wide.Edges, api.Edge{From: i % 4096, Sym: i % 128, To: (i + i/4096) % 4096})
	}
	if words, e := count.First(wide, 3, 0); e != api.OK || len(words) != 3 || len(words[0]) != 0 {
		t.Errorf("P19.4: %v, %d", words, e)
	}
	wantAmbiguous(t, wide, false, nil, api.ErrSize)
}

// TestUsefulStates: how many states are useful is what counts, whether a word has two paths or not.
func TestUsefulStates(t *testing.T) {
	for _, n := range []int{255, 256, 257, 4096} {
		a := testkit.Chain(n)
		b := testkit.Chain(n)
		b.Edges = append(b.Edges, api.Edge{From: 0, To: 0}, api.Edge{From: n - 1, To: n - 1})
		if n > 256 {
			wantAmbiguous(t, a, false, nil, api.ErrSize)
			wantAmbiguous(t, b, false, nil, api.ErrSize)
			a.Final, b.Final = []int{255}, []int{255}
			b.Edges = append(b.Edges, api.Edge{From: 255, To: 255})
			wantAmbiguous(t, a, false, nil, api.OK)
			wantAmbiguous(t, b, true, make([]int, 256), api.OK)
			a.Start = []int{1, n - 1}
			wantAmbiguous(t, a, false, nil, api.OK)
			continue
		}
		wantAmbiguous(t, a, false, nil, api.OK)
		wantAmbiguous(t, b, true, make([]int, n), api.OK)
	}
}

// TestCircles: two circles whose lengths have nothing in common are at their final states at one time after many steps for the first time.
func TestCircles(t *testing.T) {
	for _, c := range [][2]int{{2, 3}, {5, 7}, {127, 128}, {127, 129}} {
		a := testkit.SideBySide(testkit.Circle(c[0], []int{c[0] - 1}), testkit.Circle(c[1], []int{c[1] - 1}))
		word := make([]int, c[0]*c[1]-1)
		wantAmbiguous(t, a, true, word, api.OK)
		wantRuns(t, a, word, "2")
		wantRuns(t, a, word[1:], "0")
		wantLongest(t, a, -2)
	}
	even := testkit.SideBySide(testkit.Circle(128, []int{0}), testkit.Circle(126, []int{1}))
	wantAmbiguous(t, even, false, nil, api.OK)
}

// TestLeastOfTwo: of all words with two paths the least one, though it has the greater first states.
func TestLeastOfTwo(t *testing.T) {
	a := testkit.Auto(6, 3, []int{0}, []int{5}, 0, 1, 1, 0, 1, 2, 0, 0, 3, 0, 0, 4, 1, 0, 5, 2, 0, 5, 3, 2, 5, 4, 2, 5)
	wantAmbiguous(t, a, true, []int{0, 2}, api.OK)
	a.Edges = append(a.Edges, api.Edge{From: 3, Sym: 1, To: 5})
	wantAmbiguous(t, a, true, []int{0, 2}, api.OK)
	a.Edges = append(a.Edges, api.Edge{From: 4, Sym: 1, To: 5})
	wantAmbiguous(t, a, true, []int{0, 1}, api.OK)
	// two ways part and come together again ahead of the end
	b := testkit.Auto(5, 2, []int{0}, []int{4}, 0, 0, 1, 0, 0, 2, 1, 1, 3, 2, 1, 3, 3, 1, 4, 3, 0, 3)
	wantAmbiguous(t, b, true, []int{0, 1, 1}, api.OK)
	// a state that the word comes to by one way first, and by two later
	c := testkit.Auto(3, 1, []int{0}, []int{2}, 0, 0, 0, 0, 0, 1, 1, 0, 1, 1, 0, 2)
	wantAmbiguous(t, c, true, []int{0, 0, 0}, api.OK)
}

// TestLongRuns: numbers of thousands of digits.
func TestLongRuns(t *testing.T) {
	wantRuns(t, twin(), make([]int, 20000), power(2, 20001))
	wantRuns(t, testkit.Circle(7, []int{0}), make([]int, 700000), "1")
	wantRuns(t, testkit.Circle(7, []int{0}), make([]int, 700001), "0")
}

// question is what all calls are asked with.
type question struct {
	a                   api.Auto
	most, words, budget int
	word                []int
}

func ask(q question) testkit.Answers {
	var x testkit.Answers
	x.Row(count.ByLength(q.a, q.most, q.budget))
	x.Text(count.Runs(q.a, q.word))
	x.Group(count.First(q.a, q.words, q.budget))
	yes, word, e := count.Ambiguous(q.a)
	x.Truth(yes, e)
	x.List(word, e)
	x.Truth(count.Finite(q.a))
	x.Count(count.Longest(q.a))
	return x
}

// codes says what errors the calls should answer, as far as that is told by the arguments alone.
func (q question) codes() []api.Errno {
	if e := nfa.Valid(q.a); e != api.OK {
		return slices.Repeat([]api.Errno{e}, 7)
	}
	codes := make([]api.Errno, 7)
	if q.most < 0 || q.most > 200 {
		codes[0] = api.ErrArg
	} else if q.budget > 0 && q.a.States <= 60 && setsOf(q.a, q.most) > q.budget {
		codes[0] = api.ErrBudget
	}
	if q.words < 0 {
		codes[2] = api.ErrArg
	}
	return codes
}

// odd draws what may be and what may not, most of it small.
func odd(d testkit.Draw) question {
	q := question{a: d.Kin(d(5), 2), most: d.Odd(), words: d.Odd(), budget: d.Odd(), word: d.List(2, d(5))}
	if d(3) == 0 {
		q.a = d.OddAuto()
	}
	if d(4) == 0 {
		q.word = d.OddList()
	}
	if q.words > 5 {
		q.words = min(q.words, 20)
	}
	return q
}

// TestOdd: no call panics, beside an error stands nothing, and the errors come in their order.
func TestOdd(t *testing.T) {
	d := testkit.Draw(rand.New(rand.NewPCG(19, 5)).IntN)
	seen := map[api.Errno]int{}
	for range 20000 {
		q := odd(d)
		x := ask(q)
		want := q.codes()
		if x.Codes[2] == api.ErrBudget && want[2] == api.OK && q.budget > 0 {
			want[2] = api.ErrBudget
		}
		if x.Codes[6] == api.ErrNone && want[6] == api.OK && !x.Truths[1] {
			want[6] = api.ErrNone
		}
		if !slices.Equal(x.Codes, want) {
			t.Fatalf("P19.8: %+v: %v; it should be %v", q, x.Codes, want)
		}
		if want[0] != api.OK && x.Rows[0] != nil || want[1] != api.OK && x.Texts[0] != "" || want[2] != api.OK && x.Groups[0] != nil || want[3] != api.OK && (x.Truths[0] || x.Lists[0] != nil) || want[5] != api.OK && x.Truths[1] || want[6] != api.OK && x.Counts[0] != 0 {
			t.Fatalf("P19.8: %+v: beside an error stands something: %+v", q, x)
		}
		for _, e := range x.Codes {
			seen[e]++
		}
	}
	for _, e := range []api.Errno{api.OK, api.ErrArg, api.ErrAuto, api.ErrBudget, api.ErrNone} {
		if seen[e] == 0 {
			t.Errorf("P19.8: nothing that was drawn led to %d: %v", e, seen)
		}
	}
}

func TestMemory(t *testing.T) {
	d := testkit.Draw(rand.New(rand.NewPCG(19, 6)).IntN)
	for range 3000 {
		q := odd(d)
		var same, still func() bool
		q.a, same = testkit.RoomyAuto(q.a)
		q.word, still = testkit.Roomy(q.word, 0)
		if wrong := testkit.Memory(func() testkit.Answers { return ask(q) }, func() bool { return same() && still() }); wrong != "" {
			t.Fatalf("P19.8: %s: %+v", wrong, q)
		}
	}
}

// TestOrderMakesNoDifference: all lists of an automaton may be handed in in any order, with doubles.
func TestOrderMakesNoDifference(t *testing.T) {
	d := testkit.Draw(rand.New(rand.NewPCG(19, 7)).IntN)
	for range 1000 {
		q := odd(d)
		q.a = d.Kin(d(7), 2)
		x := ask(q)
		p, r := q, q
		p.a, r.a = d.Shuffled(q.a), testkit.InOrder(q.a)
		if !x.Same(ask(p)) || !x.Same(ask(r)) {
			t.Fatalf("P19.8: other answers in another order: %+v", q)
		}
	}
}
