package antichain_test

import (
	"math/rand/v2"
	"slices"
	"testing"

	"wordset/antichain"
	"wordset/api"
	"wordset/testkit"
)

// loop takes every word over one symbol, even those of even length.
func loop() api.Auto { return testkit.Auto(1, 1, []int{0}, []int{0}, 0, 0, 0) }

func even() api.Auto { return testkit.Auto(2, 1, []int{0}, []int{0}, 0, 0, 1, 1, 0, 0) }

func taken(state, parent, sym int, set ...int) api.Taken {
	return api.Taken{State: state, Set: set, Link: api.Link{Parent: parent, Sym: sym}}
}

func TestExamples(t *testing.T) {
	none, dead := testkit.Auto(0, 1, nil, nil), testkit.Auto(1, 1, []int{0}, nil, 0, 0, 0)
	two := testkit.Auto(3, 2, []int{0, 1}, []int{2}, 0, 1, 2, 1, 0, 2)
	for _, simul := range []bool{false, true} {
		wantSearch(t, loop(), even(), simul, 0, []api.Taken{taken(0, -1, -1, 0), taken(0, 0, 0, 1)}, 1)
		wantSearch(t, loop(), even(), simul, 2, []api.Taken{taken(0, -1, -1, 0), taken(0, 0, 0, 1)}, 1)
		wantSearch(t, dead, none, simul, 0, []api.Taken{taken(0, -1, -1)}, -1)
		wantSearch(t, none, dead, simul, 0, nil, -1)
		wantSearch(t, testkit.Auto(1, 0, []int{0}, []int{0}), api.Auto{}, simul, 0, []api.Taken{taken(0, -1, -1)}, 0)
		wantIncludes(t, two, testkit.Auto(0, 2, nil, nil), simul, api.Found{Has: true, Word: []int{1}, Side: 1, Pairs: 3})
	}
	wantSearch(t, even(), loop(), false, 0, []api.Taken{taken(0, -1, -1, 0), taken(1, 0, 0, 0)}, -1)
	wantSearch(t, even(), loop(), true, 0, nil, -1)
	wantNone(t, loop(), even(), 1, api.ErrBudget)
	wantNone(t, loop(), testkit.Auto(0, 2, nil, nil), 0, api.ErrSymbols)
	wantNone(t, testkit.Auto(4096, 1, nil, nil), testkit.Auto(1, 1, nil, nil), 0, api.ErrSize)
}

// TestOrder: pairs are found by the pairs that were kept, then by symbol, then by state, each rising, whatever the order of the lists; the link tells from which.
func TestOrder(t *testing.T) {
	a := testkit.Auto(6, 3, []int{3, 1}, nil, 3, 0, 5, 1, 2, 0, 1, 0, 4, 1, 2, 5, 1, 0, 2, 3, 1, 1, 0, 1, 3, 4, 0, 4)
	b := testkit.Auto(0, 3, nil, nil)
	want := []api.Taken{taken(1, -1, -1), taken(3, -1, -1), taken(2, 0, 0), taken(4, 0, 0), taken(0, 0, 2), taken(5, 0, 2)}
	wantSearch(t, a, b, false, 0, want, -1)
	a.Final = []int{0, 5}
	wantSearch(t, a, b, false, 0, want[:5], 4)
}

// TestBadEnds: a bad pair ends the search, though others would still be found.
func TestBadEnds(t *testing.T) {
	a := testkit.Auto(3, 1, []int{0, 1, 2}, []int{1}, 0, 0, 2)
	wantSearch(t, a, testkit.Auto(1, 1, []int{0}, nil, 0, 0, 0), false, 0, []api.Taken{taken(0, -1, -1, 0), taken(1, -1, -1, 0)}, 1)
	wantSearch(t, a, testkit.Auto(1, 1, []int{0}, nil, 0, 0, 0), true, 0, []api.Taken{taken(1, -1, -1, 0)}, 0)
}

// TestLeastForm: of states that are below each other the least one stays, of others that which is above.
func TestLeastForm(t *testing.T) {
	// of b 1, 3 and 4 are alike, 2 is below them, 0 and 5 are neither
	b := testkit.Auto(6, 3, []int{5, 4, 3, 2, 1, 0}, []int{1, 3, 4, 5}, 1, 0, 3, 3, 0, 4, 4, 0, 1, 2, 0, 4, 5, 1, 5, 0, 2, 0)
	a := testkit.Auto(1, 3, []int{0}, nil, 0, 0, 0, 0, 1, 0, 0, 2, 0)
	wantSearch(t, a, b, true, 0, []api.Taken{taken(0, -1, -1, 0, 1, 5), taken(0, 0, 0, 3), taken(0, 0, 1, 5), taken(0, 0, 2, 0), taken(0, 1, 1)}, -1)
	b.Start = []int{4, 3, 2}
	wantSearch(t, a, b, true, 0, []api.Taken{taken(0, -1, -1, 3), taken(0, 0, 1)}, -1)
	wantSearch(t, a, b, false, 0, []api.Taken{taken(0, -1, -1, 2, 3, 4), taken(0, 0, 0, 1, 4), taken(0, 0, 1)}, -1)
}

// TestNeverGivenUp: what was kept has its turn, even if something that subsumes it was kept behind it; so the word stays short.
func TestNeverGivenUp(t *testing.T) {
	a := testkit.Auto(4, 2, []int{0}, []int{3}, 0, 0, 1, 0, 1, 2, 1, 0, 2, 2, 0, 3)
	b := testkit.Auto(2, 2, []int{0}, nil, 0, 1, 1)
	want := []api.Taken{taken(0, -1, -1, 0), taken(1, 0, 0), taken(2, 0, 1, 1), taken(2, 1, 0), taken(3, 2, 0)}
	for _, simul := range []bool{false, true} {
		wantSearch(t, a, b, simul, 0, want, 4)
	}
}

// TestCovered: with simul a pair is left out whose state is below one of its set, and without simul it is not.
func TestCovered(t *testing.T) {
	a := testkit.Auto(2, 2, []int{0}, []int{1}, 0, 0, 1, 1, 1, 1)
	b := testkit.Auto(3, 2, []int{0, 1}, []int{2}, 0, 0, 2, 2, 1, 2, 1, 1, 0)
	wantSearch(t, a, b, true, 0, nil, -1)
	wantSearch(t, a, b, false, 0, []api.Taken{taken(0, -1, -1, 0, 1), taken(1, 0, 0, 2)}, -1)
}

// seen counts what was held, so that a test can tell whether it has seen enough.
type seen struct{ yes, no, long, searched, fewer, shrunk int }

// hold holds both calls, with simul and without, against the models, and what comes of them.
func (n *seen) hold(t *testing.T, a, b api.Auto) {
	t.Helper()
	length := testkit.Shortest(a, b, func(first, second bool) bool { return first && !second })
	var pairs [2]int
	for i, simul := range []bool{false, true} {
		m := modelOf(a, b, simul)
		kept, bad := m.search()
		wantSearch(t, a, b, simul, 0, kept, bad)
		holdRight(t, a, b, includes(kept, bad), length)
		holdBudgets(t, a, b, simul, kept, bad)
		m.holdFew(t, kept, bad)
		pairs[i] = len(kept)
		if !slices.Equal(m.least(m.b.Start), m.b.Start) {
			n.shrunk++
		}
	}
	if pairs[1] < pairs[0] {
		n.fewer++
	}
	if length < 0 {
		n.yes++
	} else {
		n.no++
	}
	if length > 3 {
		n.long++
	}
	if length < 0 && pairs[1] > 4 {
		n.searched++
	}
}

// holdRight looks whether a verdict and its word are right; the shortest words are so long, -1: there is none.
func holdRight(t *testing.T, a, b api.Auto, f api.Found, length int) {
	t.Helper()
	if f.Yes != (length < 0) || f.Has == f.Yes {
		t.Fatalf("P15.3: %v, %v: %v; the shortest word has the length %d", a, b, f, length)
	}
	if f.Has && (len(f.Word) != length || !testkit.Reads(a, f.Word) || testkit.Reads(b, f.Word)) {
		t.Fatalf("P15.3: %v, %v: %v; the shortest word has the length %d", a, b, f, length)
	}
	if f.Has && len(f.Word) >= f.Pairs {
		t.Fatalf("P15.5: %v, %v: %v", a, b, f)
	}
}

func holdBudgets(t *testing.T, a, b api.Auto, simul bool, kept []api.Taken, bad int) {
	t.Helper()
	n := len(kept)
	for _, budget := range []int{n, n + 1, most, -1, lowest} {
		wantSearch(t, a, b, simul, budget, kept, bad)
	}
	for _, budget := range []int{1, n / 2, n - 1} {
		if budget <= 0 || budget >= n {
			continue
		}
		if x := ask(questions{a, b, simul, budget}); !slices.Equal(x.Codes, slices.Repeat([]api.Errno{api.ErrBudget}, 3)) || !x.Nothing() {
			t.Fatalf("P15.4: %v, %v, simul %v, budget %d of %d: %v", a, b, simul, budget, n, x)
		}
	}
}

// holdFew says P15.5.
func (m model) holdFew(t *testing.T, kept []api.Taken, bad int) {
	t.Helper()
	if len(kept) > m.a.States<<m.b.States {
		t.Fatalf("P15.5: %v, %v: %d pairs", m.a, m.b, len(kept))
	}
	for i, y := range kept {
		for j, x := range kept[i+1:] {
			if m.subsumes(y, x) {
				t.Fatalf("P15.5: %v, %v: of %v the one at %d subsumes that at %d", m.a, m.b, kept, i, i+1+j)
			}
		}
	}
	if bad >= 0 {
		return
	}
	found := m.roots()
	for at, x := range kept {
		found = append(found, m.next(x, at)...)
	}
	for _, x := range found {
		if !m.safe(x) && !slices.ContainsFunc(kept, func(y api.Taken) bool { return m.subsumes(y, x) }) {
			t.Fatalf("P15.5: %v, %v: %v is not closed: %v", m.a, m.b, kept, x)
		}
	}
}

func TestEvery(t *testing.T) {
	var n seen
	for _, c := range []struct{ first, second, symbols int }{{0, 0, 0}, {0, 1, 1}, {1, 0, 1}, {2, 0, 1}, {1, 1, 0}, {1, 1, 1}, {1, 1, 2}, {1, 2, 0}, {2, 1, 0}, {1, 2, 1}, {2, 1, 1}, {2, 2, 0}} {
		for a := range testkit.Every(c.first, c.symbols) {
			for b := range testkit.Every(c.second, c.symbols) {
				n.hold(t, a, b)
			}
		}
	}
	if n.yes == 0 || n.no == 0 || n.fewer == 0 || n.shrunk == 0 {
		t.Errorf("held were %+v", n)
	}
}

// TestEveryTwo: all automata of two states over one symbol, with all such that have one of a few ways to begin and end.
func TestEveryTwo(t *testing.T) {
	var n seen
	for a := range testkit.Every(2, 1) {
		if len(a.Start) == 0 || len(a.Final) == 0 {
			continue
		}
		for b := range testkit.Every(2, 1) {
			if slices.Contains(b.Start, 0) && slices.Contains(b.Final, 1) {
				n.hold(t, a, b)
			}
		}
	}
	if n.yes == 0 || n.no == 0 {
		t.Errorf("held were %+v", n)
	}
}

func TestDrawn(t *testing.T) {
	d := testkit.Draw(rand.New(rand.NewPCG(15, 1)).IntN)
	var n seen
	for range 2000 {
		a, b := d.Two(6, 2)
		n.hold(t, a, b)
		a, b = d.Related(5, 2)
		n.hold(t, a, b)
		n.hold(t, b, a)
		for range 2 {
			a, b = d.Hidden(1+d(3), 4+d(6))
			n.hold(t, a, b)
		}
	}
	if n.yes < 1000 || n.no < 1000 || n.long < 50 || n.searched < 50 || n.fewer < 1000 || n.shrunk < 500 {
		t.Errorf("held were %+v", n)
	}
}

// TestDrawnLarger: some more states and symbols.
func TestDrawnLarger(t *testing.T) {
	d := testkit.Draw(rand.New(rand.NewPCG(15, 2)).IntN)
	var n seen
	for range 40 {
		a, b := d.Two(14, 4)
		n.hold(t, a, b)
		a, b = d.Related(6, 3)
		n.hold(t, a, b)
		a, b = d.Hidden(4, 12)
		n.hold(t, a, b)
	}
	if n.yes == 0 || n.no == 0 || n.searched == 0 {
		t.Errorf("held were %+v", n)
	}
}

// TestSelf: every automaton is in itself; with simul nothing is kept, for each state is below its own.
func TestSelf(t *testing.T) {
	d := testkit.Draw(rand.New(rand.NewPCG(15, 3)).IntN)
	for range 500 {
		a := d.Kin(d(12), 3)
		wantIncludes(t, a, d.Shuffled(a), true, api.Found{Yes: true})
		if f, e := antichain.Includes(a, d.Renumbered(a), false, 0); e != api.OK || !f.Yes {
			t.Fatalf("P15.3: %v in itself: %v, %d", a, f, e)
		}
	}
}
