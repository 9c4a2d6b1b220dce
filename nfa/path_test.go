package nfa_test

import (
	"fmt"
	"math/rand/v2"
	"slices"
	"testing"

	"wordset/api"
	"wordset/nfa"
	"wordset/testkit"
)

func TestImageExamples(t *testing.T) {
	a := example()
	for _, c := range []struct {
		set  []int
		sym  int
		post []int
		pre  []int
	}{
		{[]int{0, 0}, 1, []int{0, 1}, []int{0}},
		{[]int{1, 0}, 0, []int{0, 2}, []int{0}},
		{nil, 0, nil, nil},
		{[]int{}, 1, nil, nil},
		{[]int{0}, 1, []int{0, 1}, []int{0}},
		{[]int{2, 1}, 0, []int{2}, []int{1}},
		{[]int{2, 1, 0, 0, 1, 2}, 0, []int{0, 2}, []int{0, 1}},
		{[]int{2}, 1, nil, nil},
	} {
		l, e := nfa.Post(a, c.set, c.sym)
		wantList(t, fmt.Sprintf("P6.2: Post(%v, %d)", c.set, c.sym), l, e, c.post)
		l, e = nfa.Pre(a, c.set, c.sym)
		wantList(t, fmt.Sprintf("P6.2: Pre(%v, %d)", c.set, c.sym), l, e, c.pre)
	}
	for _, c := range []struct {
		a   api.Auto
		set []int
		sym int
	}{
		{a, []int{3}, 0}, {a, []int{0, 3}, 0}, {a, []int{-1, 0}, 0}, {a, []int{1 << 40}, 0}, {a, []int{4096}, 1},
		{a, []int{0}, 2}, {a, nil, 2}, {a, []int{0}, -1}, {a, []int{3}, -1}, {a, nil, 1 << 40},
		{api.Auto{}, nil, 0}, {api.Auto{Symbols: 1}, []int{0}, 0}, {api.Auto{States: 1}, []int{0}, 0},
	} {
		l, e := nfa.Post(c.a, c.set, c.sym)
		wantNoList(t, fmt.Sprintf("P6.2: Post(%v, %d)", c.set, c.sym), l, e, api.ErrArg)
		l, e = nfa.Pre(c.a, c.set, c.sym)
		wantNoList(t, fmt.Sprintf("P6.2: Pre(%v, %d)", c.set, c.sym), l, e, api.ErrArg)
	}
	l, e := nfa.Post(api.Auto{Symbols: 1}, nil, 0)
	wantList(t, "P6.2: Post without states", l, e, nil)
	l, e = nfa.Pre(api.Auto{Symbols: 1}, nil, 0)
	wantList(t, "P6.2: Pre without states", l, e, nil)
}

func TestImagesDrawn(t *testing.T) {
	d := testkit.Draw(rand.New(rand.NewPCG(6, 2)).IntN)
	for range 2000 {
		a := d.Auto(5, 3)
		for sym := range a.Symbols {
			set := d.List(a.States, d(5))
			var post, pre [][]int
			for _, p := range set {
				post, pre = append(post, ends(a, p, sym, false)), append(pre, ends(a, p, sym, true))
			}
			l, e := nfa.Post(a, set, sym)
			wantList(t, "P6.2, P6.6: Post", l, e, joined(post...))
			l, e = nfa.Pre(a, set, sym)
			wantList(t, "P6.2, P6.6: Pre", l, e, joined(pre...))
		}
	}
}

func TestOneRelation(t *testing.T) {
	d := testkit.Draw(rand.New(rand.NewPCG(6, 3)).IntN)
	for range 300 {
		a := d.Auto(5, 2)
		for sym := range a.Symbols {
			for p := range a.States {
				post, _ := nfa.Post(a, []int{p}, sym)
				for q := range a.States {
					pre, _ := nfa.Pre(a, []int{q}, sym)
					if slices.Contains(post, q) != slices.Contains(pre, p) {
						t.Errorf("P6.6: %v: %d, %d, %d: Post and Pre differ", a, p, sym, q)
					}
				}
			}
		}
	}
}

func TestWordExamples(t *testing.T) {
	a := example()
	for _, c := range []struct {
		word  []int
		after []int
		path  []int
	}{
		{[]int{1, 1, 0}, []int{0, 2}, []int{0, 0, 1, 2}},
		{[]int{1, 0, 1}, []int{0, 1}, nil},
		{nil, []int{0}, nil},
		{[]int{}, []int{0}, nil},
		{[]int{1, 0}, []int{0, 2}, []int{0, 1, 2}},
		{[]int{1}, []int{0, 1}, nil},
	} {
		wantWord(t, a, c.word, c.after, c.path)
	}
	for _, word := range [][]int{{2}, {-1}, {1, 0, 2}, {2, 1, 0}, {1 << 40}, {1, -1 << 63, 0}} {
		wantBadWord(t, a, word)
	}
	wantBadWord(t, api.Auto{}, []int{0})
	wantBadWord(t, api.Auto{States: 1, Start: []int{0}, Final: []int{0}}, []int{0})
	wantWord(t, api.Auto{States: 3, Start: []int{2, 1}, Final: []int{1, 2}}, nil, []int{1, 2}, []int{1})
	wantWord(t, api.Auto{States: 1, Start: []int{0, 0}, Final: []int{0}}, nil, []int{0}, []int{0})
	wantWord(t, api.Auto{}, nil, nil, nil)
	wantWord(t, api.Auto{Symbols: 1}, []int{0, 0}, nil, nil)
	wantWord(t, api.Auto{States: 2, Symbols: 1, Final: []int{0}, Edges: []api.Edge{{}}}, []int{0}, nil, nil)
	wantWord(t, api.Auto{States: 2, Symbols: 1, Start: []int{0}, Final: []int{0}}, []int{0}, nil, nil)
	twoStarts := api.Auto{States: 4, Symbols: 1, Start: []int{1, 0}, Final: []int{3, 2}, Edges: []api.Edge{{From: 0, To: 3}, {From: 1, To: 2}, {From: 0, To: 1}}}
	wantWord(t, twoStarts, []int{0}, []int{1, 2, 3}, []int{0, 3})
	wantWord(t, twoStarts, []int{0, 0}, []int{2}, []int{0, 1, 2})
}

// wantWord holds what the calls tell of a word that may be against its states and its least path (nil: it has none).
func wantWord(t *testing.T, a api.Auto, word, after, path []int) {
	t.Helper()
	l, e := nfa.After(a, word)
	wantList(t, fmt.Sprintf("P6.3: After(%v, %v)", a, word), l, e, after)
	yes, e := nfa.Accepts(a, word)
	wantTruth(t, fmt.Sprintf("P6.3: Accepts(%v, %v)", a, word), yes, e, path != nil)
	l, e = nfa.Path(a, word)
	if path == nil {
		wantNoList(t, fmt.Sprintf("P6.4: Path(%v, %v)", a, word), l, e, api.ErrNone)
		return
	}
	wantList(t, fmt.Sprintf("P6.4: Path(%v, %v)", a, word), l, e, path)
	yes, e = nfa.Runs(a, l, word)
	wantTruth(t, fmt.Sprintf("P6.6: Runs(%v, %v, %v)", a, l, word), yes, e, true)
}

func wantBadWord(t *testing.T, a api.Auto, word []int) {
	t.Helper()
	l, e := nfa.After(a, word)
	wantNoList(t, fmt.Sprintf("P6.3: After(%v, %v)", a, word), l, e, api.ErrWord)
	yes, e := nfa.Accepts(a, word)
	wantNoTruth(t, fmt.Sprintf("P6.3: Accepts(%v, %v)", a, word), yes, e, api.ErrWord)
	l, e = nfa.Path(a, word)
	wantNoList(t, fmt.Sprintf("P6.4: Path(%v, %v)", a, word), l, e, api.ErrWord)
	for _, states := range [][]int{nil, {0}, {9, 9}, {0, 0, 0, 0}} {
		yes, e = nfa.Runs(a, states, word)
		wantNoTruth(t, fmt.Sprintf("P6.4: Runs(%v, %v, %v)", a, states, word), yes, e, api.ErrWord)
	}
}

func TestRunsExamples(t *testing.T) {
	a := example()
	const far = 1 << 40
	for _, c := range []struct {
		states, word []int
		want         bool
	}{
		{[]int{0, 1, 2}, []int{1, 0}, true},
		{[]int{0, 0, 0}, []int{1, 0}, false},
		{[]int{0, 1}, []int{1, 0}, false},
		{[]int{0, 1, 2, 2}, []int{1, 0}, false},
		{[]int{9, 9}, []int{1}, false},
		{nil, nil, false},
		{nil, []int{1}, false},
		{[]int{0}, nil, false},
		{[]int{2}, nil, false},
		{[]int{1, 2}, []int{0}, false},
		{[]int{0, 3, 2}, []int{1, 0}, false},
		{[]int{0, -1, 2}, []int{1, 0}, false},
		{[]int{0, far, 2}, []int{1, 0}, false},
		{[]int{-1}, nil, false},
		{[]int{far, far}, []int{0}, false},
		{[]int{0, 0, 0, 1, 2}, []int{0, 1, 1, 0}, true},
		{[]int{0, 0, 0, 1, 2}, []int{0, 1, 0, 0}, false},
	} {
		yes, e := nfa.Runs(a, c.states, c.word)
		wantTruth(t, fmt.Sprintf("P6.4: Runs(%v, %v)", c.states, c.word), yes, e, c.want)
	}
	loop := api.Auto{States: 2, Start: []int{1, 0}, Final: []int{1, 1}}
	for p, want := range []bool{false, true, false} {
		yes, e := nfa.Runs(loop, []int{p}, nil)
		wantTruth(t, "P6.4: Runs of the empty word", yes, e, want)
	}
	yes, e := nfa.Runs(api.Auto{}, nil, nil)
	wantTruth(t, "P6.4: Runs without states", yes, e, false)
}

// TestPathDefinition holds all words and all lists of states against the paths.
func TestPathDefinition(t *testing.T) {
	d := testkit.Draw(rand.New(rand.NewPCG(6, 4)).IntN)
	for range 250 {
		a := d.Auto(3, 2)
		for _, word := range testkit.Words(a.Symbols, 3) {
			paths := testkit.Paths(a, word)
			var least []int
			if len(paths) > 0 {
				least = paths[0]
			}
			wantWord(t, a, word, lastOf(testkit.Tracks(a, word)), least)
			for _, states := range testkit.Words(a.States+1, len(word)+1) {
				if len(states) < len(word) {
					continue
				}
				yes, e := nfa.Runs(a, states, word)
				wantTruth(t, fmt.Sprintf("P6.4, P6.6: Runs(%v, %v, %v)", a, states, word), yes, e, slices.ContainsFunc(paths, func(p []int) bool { return slices.Equal(p, states) }))
			}
		}
	}
}

func TestAfterIsPost(t *testing.T) {
	d := testkit.Draw(rand.New(rand.NewPCG(6, 5)).IntN)
	for range 1000 {
		a := d.Auto(70, 3)
		word := d.List(a.Symbols, d(12))
		set := joined(a.Start)
		for i, sym := range word {
			set, _ = nfa.Post(a, set, sym)
			l, e := nfa.After(a, word[:i+1])
			wantList(t, "P6.3: After", l, e, set)
		}
	}
}

// TestPathLengths goes through the lengths one by one: a long word's places are gone through in blocks.
func TestPathLengths(t *testing.T) {
	d := testkit.Draw(rand.New(rand.NewPCG(6, 6)).IntN)
	for range 40 {
		a := d.Auto(6, 2)
		word := d.List(a.Symbols, 70)
		for length := range len(word) + 1 {
			want := leastByEnds(a, word[:length])
			l, e := nfa.Path(a, word[:length])
			if want == nil {
				wantNoList(t, "P6.4: Path", l, e, api.ErrNone)
				continue
			}
			wantList(t, "P6.4, P6.6: Path", l, e, want)
			yes, e := nfa.Runs(a, l, word[:length])
			wantTruth(t, "P6.6: Runs of Path", yes, e, true)
		}
	}
}

// fan gives an automaton in which each word has very many paths, the least of which goes through 0 as long as it can.
func fan(states int) api.Auto {
	a := api.Auto{States: states, Symbols: 2, Start: []int{states - 1, 0}, Final: []int{states - 1}}
	for p := range states {
		for q := range states {
			a.Edges = append(a.Edges, api.Edge{From: p, Sym: 0, To: q})
		}
		a.Edges = append(a.Edges, api.Edge{From: p, Sym: 1, To: (p + 1) % states})
	}
	return a
}

func TestLeastAmongMany(t *testing.T) {
	word := []int{0, 0, 0, 1, 1, 1, 0, 0, 1, 0}
	l, e := nfa.Path(fan(4), word)
	wantList(t, "P6.4: Path", l, e, []int{0, 0, 0, 0, 1, 2, 3, 0, 0, 1, 3})
	for i := range 300 {
		word = append(word, i/7%2)
	}
	l, e = nfa.Path(fan(9), word)
	wantList(t, "P6.4: Path", l, e, leastByEnds(fan(9), word))
}

func TestLongWords(t *testing.T) {
	long := make([]int, 300001)
	for i := range long {
		long[i] = 1
	}
	long[300000] = 0
	l, e := nfa.After(example(), long)
	wantList(t, "P6.3: After a long word", l, e, []int{0, 2})
	l, e = nfa.Path(example(), long)
	want := make([]int, 300002)
	want[300000], want[300001] = 1, 2
	if e != api.OK || !slices.Equal(l, want) {
		t.Errorf("P6.4: Path of a long word: %d", e)
	}
	yes, e := nfa.Runs(example(), l, long)
	wantTruth(t, "P6.4: Runs of a long word", yes, e, true)
	want[299999] = 1
	yes, e = nfa.Runs(example(), want, long)
	wantTruth(t, "P6.4: Runs of a long word, one place wrong", yes, e, false)
	long[300000] = 2
	yes, e = nfa.Accepts(example(), long)
	wantNoTruth(t, "P6.3: Accepts", yes, e, api.ErrWord)
}

func TestGreatAutomata(t *testing.T) {
	a := chain(4096)
	word := make([]int, 4095)
	want := make([]int, 4096)
	for i := range want {
		want[i] = i
	}
	wantWord(t, a, word, []int{4095}, want)
	wantWord(t, a, word[1:], []int{4094}, nil)
	full := dense(256, 65536)
	full.Start, full.Final = []int{255}, []int{255}
	path := make([]int, 101)
	path[0], path[100] = 255, 255
	wantWord(t, full, make([]int, 100), want[:256], path)
	l, e := nfa.Post(full, []int{7}, 0)
	wantList(t, "P6.2: Post", l, e, want[:256])
	wide := api.Auto{States: 4096, Symbols: 128, Start: []int{4095}, Final: []int{4095}}
	for sym := range 128 {
		wide.Edges = append(wide.Edges, api.Edge{From: 4095, Sym: 127 - sym, To: 4095 - sym})
	}
	wantWord(t, wide, []int{127, 127}, []int{4095}, []int{4095, 4095, 4095})
	wantWord(t, wide, []int{127, 0}, []int{3968}, nil)
}
