package witness_test

import (
	"fmt"
	"slices"
	"strings"
	"testing"

	"wordset/api"
	"wordset/testkit"
	"wordset/witness"
)

const lowest, greatest = -1 << 63, 1<<63 - 1

// noOf says what a word does that shows the no of a query from 0 to 3, and its side.
func noOf(query int, first, second bool) (bool, int) {
	switch {
	case query == 0 && first, query == 1 && !first:
		return true, 0
	case query == 2 && first && !second, query == 3 && first && !second:
		return true, 1
	case query == 3 && second && !first:
		return true, 2
	}
	return false, 0
}

// pair is what a word leads to in both automata.
type pair [2]uint64

func startOf(a, b api.Auto) pair { return pair{testkit.Bits(a.Start), testkit.Bits(b.Start)} }

func (p pair) post(a, b api.Auto, k int) pair {
	return pair{testkit.PostBits(a, p[0], k), testkit.PostBits(b, p[1], k)}
}

func (p pair) shows(query int, a, b api.Auto) bool {
	is, _ := noOf(query, p[0]&testkit.Bits(a.Final) != 0, p[1]&testkit.Bits(b.Final) != 0)
	return is
}

// least is what a search for the least word should come to.
type least struct {
	word  []int
	none  bool
	pairs int
}

// byWords says it just as the chapter does, word for word: so it is for a few short ones.
func byWords(query int, a, b api.Auto, most int) least {
	seen := map[pair]int{}
	for _, w := range testkit.Words(a.Symbols, most) {
		at := startOf(a, b)
		for _, k := range w {
			at = at.post(a, b, k)
		}
		seen[at]++
		if is, _ := noOf(query, testkit.Takes(a, w), testkit.Takes(b, w)); is {
			return least{word: w, pairs: len(seen)}
		}
	}
	return least{none: true, pairs: len(seen)}
}

// byPairs says it for words of any length: of those that lead to one pair only the least is gone on with.
func byPairs(query int, a, b api.Auto, most int) least {
	words := [][]int{nil}
	pairs := []pair{startOf(a, b)}
	for i := 0; i < len(pairs); i++ {
		if pairs[i].shows(query, a, b) {
			return least{word: words[i], pairs: i + 1}
		}
		for k := range a.Symbols {
			next := pairs[i].post(a, b, k)
			if len(words[i]) != most && !slices.Contains(pairs, next) {
				pairs = append(pairs, next)
				words = append(words, append(slices.Clone(words[i]), k))
			}
		}
	}
	return least{none: true, pairs: len(pairs)}
}

// brief tells something; of what is long just the beginning.
func brief(x any) string {
	text := fmt.Sprint(x)
	if len(text) > 300 {
		return text[:300] + " .."
	}
	return text
}

func wantWord(t *testing.T, links []api.Link, at int, want []int, code api.Errno) {
	t.Helper()
	if w, e := witness.Word(links, at); e != code || !slices.Equal(w, want) || e != api.OK && w != nil {
		t.Fatalf("P17.1: Word(%s, %d): %s, %d; it should be %s, %d", brief(links), at, brief(w), e, brief(want), code)
	}
}

func wantShows(t *testing.T, query int, a, b api.Auto, w []int, is bool, side int, code api.Errno) {
	t.Helper()
	if is2, side2, e := witness.Shows(query, a, b, w); is2 != is || side2 != side || e != code {
		t.Fatalf("P17.2: Shows(%d, %s, %s, %s): %v, %d, %d; it should be %v, %d, %d", query, brief(a), brief(b), brief(w), is2, side2, e, is, side, code)
	}
}

func wantLeast(t *testing.T, query int, a, b api.Auto, most, budget int, want []int, code api.Errno) {
	t.Helper()
	if w, e := witness.Least(query, a, b, most, budget); e != code || !slices.Equal(w, want) || e != api.OK && w != nil {
		t.Fatalf("P17.3: Least(%d, %s, %s, %d, %d): %s, %d; it should be %s, %d", query, brief(a), brief(b), most, budget, brief(w), e, brief(want), code)
	}
}

// wantBudgets looks at the answers with all budgets that could make a difference.
func wantBudgets(t *testing.T, query int, a, b api.Auto, most int, want least) {
	t.Helper()
	n := want.pairs
	for _, budget := range []int{0, -1, lowest, 1, n / 2, n - 1, n, n + 1, greatest} {
		switch {
		case budget > 0 && budget < n:
			wantLeast(t, query, a, b, most, budget, nil, api.ErrBudget)
		case want.none:
			wantLeast(t, query, a, b, most, budget, nil, api.ErrNone)
		default:
			wantLeast(t, query, a, b, most, budget, want.word, api.OK)
		}
	}
}

// wantNeither looks whether two automata cannot be asked together, by whatever query, word and bounds.
func wantNeither(t *testing.T, a, b api.Auto, code api.Errno) {
	t.Helper()
	for query := range 4 {
		for _, w := range [][]int{nil, {0}, {-1}, {greatest}} {
			wantShows(t, query, a, b, w, false, 0, code)
		}
		for _, n := range []int{-1, 0, 1} {
			wantLeast(t, query, a, b, n, n, nil, code)
		}
	}
}

func wantSets(t *testing.T, a api.Auto, w []int, want [][]int, code api.Errno) {
	t.Helper()
	if sets, e := witness.Sets(a, w); e != code || !testkit.SameGroup(sets, want) || e != api.OK && sets != nil {
		t.Fatalf("P17.4: Sets(%s, %s): %s, %d; it should be %s, %d", brief(a), brief(w), brief(sets), e, brief(want), code)
	}
}

func wantRender(t *testing.T, w []int, names []string, want string, code api.Errno) {
	t.Helper()
	if s, e := witness.Render(w, names); s != want || e != code {
		t.Fatalf("P17.5: Render(%s, %s): %s, %d; it should be %s, %d", brief(w), brief(names), brief(s), e, brief(want), code)
	}
}

func wantRead(t *testing.T, text string, names []string, want []int, code api.Errno, at int) {
	t.Helper()
	if w, p := witness.Read(text, names); p.Code != code || p.At != at || !slices.Equal(w, want) || code != api.OK && w != nil {
		t.Fatalf("P17.6: Read(%q, %s): %s, %v; it should be %s, %d at %d", brief(text), brief(names), brief(w), p, brief(want), code, at)
	}
}

// isName says what a name is.
func isName(s string) bool {
	return len(s) >= 1 && len(s) <= 16 && strings.Trim(s, "ABCDEFGHIJKLMNOPQRSTUVWXYZabcdefghijklmnopqrstuvwxyz0123456789_'") == ""
}

// namesCode says what is wrong with a list of names.
func namesCode(names []string) api.Errno {
	if slices.ContainsFunc(names, func(s string) bool { return !isName(s) }) {
		return api.ErrName
	}
	for i, s := range names {
		if slices.Contains(names[:i], s) {
			return api.ErrTwice
		}
	}
	return api.OK
}

// rendered says what Render should answer.
func rendered(w []int, names []string) (string, api.Errno) {
	if slices.ContainsFunc(w, func(k int) bool { return k < 0 || k >= len(names) }) {
		return "", api.ErrWord
	}
	if e := namesCode(names); e != api.OK {
		return "", e
	}
	if len(w) == 0 {
		return "()", api.OK
	}
	var parts []string
	for _, k := range w {
		parts = append(parts, names[k])
	}
	return strings.Join(parts, " "), api.OK
}

// read says what Read should answer: first it looks where the words stand, then which of them may.
func read(text string, names []string) ([]int, api.Problem) {
	if e := namesCode(names); e != api.OK {
		return nil, api.Problem{Code: e}
	}
	blank := func(i int) bool { return i < 0 || i == len(text) || text[i] == 32 || text[i] == 9 }
	var words []string
	var at []int
	for i := range len(text) + 1 {
		if blank(i-1) && !blank(i) {
			at = append(at, i)
		}
		if !blank(i-1) && blank(i) {
			words = append(words, text[at[len(at)-1]:i])
		}
	}
	if len(words) == 0 {
		return nil, api.Problem{Code: api.ErrForm, At: len(text)}
	}
	if len(words) == 1 && words[0] == "()" {
		return nil, api.Problem{}
	}
	var w []int
	for i, s := range words {
		if s == "()" && i == 0 {
			return nil, api.Problem{Code: api.ErrForm, At: at[1]}
		}
		k := slices.Index(names, s)
		if k < 0 {
			return nil, api.Problem{Code: api.ErrForm, At: at[i]}
		}
		w = append(w, k)
	}
	return w, api.Problem{}
}
