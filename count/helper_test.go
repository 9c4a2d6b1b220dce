package count_test

import (
	"fmt"
	"math/big"
	"slices"
	"testing"

	"wordset/api"
	"wordset/count"
	"wordset/testkit"
)

const lowest, greatest = -1 << 63, 1<<63 - 1

// brief tells something; of what is long just the beginning.
func brief(x any) string {
	text := fmt.Sprint(x)
	if len(text) > 300 {
		return text[:300] + " .."
	}
	return text
}

func wantByLength(t *testing.T, a api.Auto, most, budget int, want []string, code api.Errno) {
	t.Helper()
	if l, e := count.ByLength(a, most, budget); e != code || !slices.Equal(l, want) || e != api.OK && l != nil {
		t.Fatalf("P19.2: ByLength(%s, %d, %d): %s, %d; it should be %s, %d", brief(a), most, budget, brief(l), e, brief(want), code)
	}
}

// around gives the budgets that could make a difference where n things are needed.
func around(n int) []int {
	list := []int{lowest, -1, 0, 1, n / 2, n - 1, n, n + 1, greatest}
	slices.Sort(list)
	return slices.Compact(list)
}

// wantSets looks at the answers with all budgets that could make a difference, where words lead to so many sets.
func wantSets(t *testing.T, a api.Auto, most, sets int, want []string) {
	t.Helper()
	for _, budget := range around(sets) {
		if budget > 0 && budget < sets {
			wantByLength(t, a, most, budget, nil, api.ErrBudget)
			continue
		}
		wantByLength(t, a, most, budget, want, api.OK)
	}
}

func wantRuns(t *testing.T, a api.Auto, word []int, want string) {
	t.Helper()
	if s, e := count.Runs(a, word); e != api.OK || s != want {
		t.Fatalf("P19.3: Runs(%s, %s): %s, %d; it should be %s", brief(a), brief(word), brief(s), e, brief(want))
	}
}

func wantFirst(t *testing.T, a api.Auto, words, budget int, want [][]int, code api.Errno) {
	t.Helper()
	if l, e := count.First(a, words, budget); e != code || !testkit.SameGroup(l, want) || e != api.OK && l != nil {
		t.Fatalf("P19.4: First(%s, %d, %d): %s, %d; it should be %s, %d", brief(a), words, budget, brief(l), e, brief(want), code)
	}
}

// wantWords looks at the answers with all budgets that could make a difference, where so many are asked for and those are the first ones.
func wantWords(t *testing.T, a api.Auto, words int, want [][]int) {
	t.Helper()
	n := 0
	for _, w := range want {
		n += len(w)
	}
	for _, budget := range around(n) {
		if budget > 0 && budget < n {
			wantFirst(t, a, words, budget, nil, api.ErrBudget)
			continue
		}
		wantFirst(t, a, words, budget, want, api.OK)
	}
}

func wantAmbiguous(t *testing.T, a api.Auto, yes bool, word []int, code api.Errno) {
	t.Helper()
	if is, w, e := count.Ambiguous(a); is != yes || !slices.Equal(w, word) || e != code || !is && w != nil {
		t.Fatalf("P19.5: Ambiguous(%s): %v, %s, %d; it should be %v, %s, %d", brief(a), is, brief(w), e, yes, brief(word), code)
	}
}

// wantLongest takes the length of the longest word, -1: there is none, -2: there is no longest.
func wantLongest(t *testing.T, a api.Auto, want int) {
	t.Helper()
	if finite, e := count.Finite(a); finite != (want > -2) || e != api.OK {
		t.Fatalf("P19.6: Finite(%s): %v, %d; the longest word has %d", brief(a), finite, e, want)
	}
	code := api.OK
	if want < -1 {
		want, code = 0, api.ErrNone
	}
	if n, e := count.Longest(a); n != want || e != code {
		t.Fatalf("P19.6: Longest(%s): %d, %d; it should be %d, %d", brief(a), n, e, want, code)
	}
}

// wantAll looks whether all calls answer that error, and nothing else, whatever else is wrong.
func wantAll(t *testing.T, a api.Auto, code api.Errno) {
	t.Helper()
	for _, n := range []int{0, 1, -1, 201, lowest, greatest} {
		wantByLength(t, a, n, n, nil, code)
		wantFirst(t, a, n, n, nil, code)
		if s, e := count.Runs(a, []int{n}); s != "" || e != code {
			t.Fatalf("P19.1: Runs(%s): %s, %d; it should be %d", brief(a), s, e, code)
		}
	}
	wantAmbiguous(t, a, false, nil, code)
	if finite, e := count.Finite(a); finite || e != code {
		t.Fatalf("P19.1: Finite(%s): %v, %d; it should be %d", brief(a), finite, e, code)
	}
	if n, e := count.Longest(a); n != 0 || e != code {
		t.Fatalf("P19.1: Longest(%s): %d, %d; it should be %d", brief(a), n, e, code)
	}
}

// digits gives numbers as texts.
func digits(numbers ...int) []string {
	var list []string
	for _, n := range numbers {
		list = append(list, fmt.Sprint(n))
	}
	return list
}

// power gives a number's power in digits.
func power(base, exponent int64) string {
	return new(big.Int).Exp(big.NewInt(base), big.NewInt(exponent), nil).String()
}

// model is what the calls should answer, said word for word for the words of at most so many symbols.
type model struct {
	most    int
	lengths []int
	sets    []int // by length: how many sets the words up to it lead to
	taken   [][]int
	words   [][]int
	runs    []int // by word
}

// byWords goes through all words and, of each, through all lists of states.
func byWords(a api.Auto, most int) model {
	m := model{most: most, lengths: make([]int, most+1), sets: make([]int, most+1), words: testkit.Words(a.Symbols, most)}
	seen := map[uint64]int{}
	for _, w := range m.words {
		var set uint64
		paths := 0
		for _, list := range testkit.Tracks(a, w) {
			last := list[len(list)-1]
			set |= 1 << last
			if slices.Contains(a.Final, last) {
				paths++
			}
		}
		if set != 0 {
			seen[set]++
		}
		m.sets[len(w)] = len(seen)
		if paths > 0 {
			m.lengths[len(w)]++
			m.taken = append(m.taken, w)
		}
		m.runs = append(m.runs, paths)
	}
	for n := 1; n <= most; n++ {
		m.sets[n] = max(m.sets[n], m.sets[n-1]) // where there is no symbol there is no word either
	}
	return m
}

// longestOf says how long the longest word is, -1: there is none, -2: there is no longest: by the lengths that words have, up to twice as many as there are states.
func longestOf(a api.Auto) int {
	set, longest := testkit.Bits(a.Start), -1
	for n := range 2 * a.States {
		if set&testkit.Bits(a.Final) != 0 {
			if n >= a.States {
				return -2
			}
			longest = n
		}
		var next uint64
		for k := range a.Symbols {
			next |= testkit.PostBits(a, set, k)
		}
		set = next
	}
	return longest
}

// ambiguityOf says the least word that has two paths. It goes through what words lead to in length order: for each state whether it is met by no list of states, by one, or by more; of the words that lead to the same only the least is gone on with. For at most 8 states.
func ambiguityOf(a api.Auto) (bool, []int) {
	a = testkit.InOrder(a)
	type met [8]int
	var start met
	for _, p := range a.Start {
		start[p] = 1
	}
	all, words := []met{start}, [][]int{nil}
	seen := map[met]int{start: 1}
	for i := 0; i < len(all); i++ {
		paths := 0
		for _, p := range a.Final {
			paths += all[i][p]
		}
		if paths > 1 {
			return true, words[i]
		}
		for k := range a.Symbols {
			var next met
			for _, e := range a.Edges {
				if e.Sym == k {
					next[e.To] = min(2, next[e.To]+all[i][e.From])
				}
			}
			if seen[next] == 0 {
				seen[next] = 1
				all = append(all, next)
				words = append(words, append(slices.Clone(words[i]), k))
			}
		}
	}
	return false, nil
}

// hold holds all calls against the models, with words of at most so many symbols.
func hold(t *testing.T, a api.Auto, most int) {
	t.Helper()
	m := byWords(a, most)
	for n := range most + 1 {
		wantSets(t, a, n, m.sets[n], digits(m.lengths[:n+1]...))
	}
	for i, w := range m.words {
		wantRuns(t, a, w, fmt.Sprint(m.runs[i]))
	}
	longest := longestOf(a)
	wantLongest(t, a, longest)
	for n := range len(m.taken) + 1 {
		wantWords(t, a, n, m.taken[:n])
	}
	if longest > -2 && longest <= most {
		wantWords(t, a, len(m.taken)+1, m.taken)
		wantWords(t, a, greatest, m.taken)
	}
	yes, word := ambiguityOf(a)
	wantAmbiguous(t, a, yes, word, api.OK)
}
