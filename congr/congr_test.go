package congr_test

import (
	"math/rand/v2"
	"testing"

	"wordset/api"
	"wordset/congr"
	"wordset/testkit"
)

// all takes every word over one symbol, some all but the empty one.
func all() api.Auto { return testkit.Auto(1, 1, []int{0}, []int{0}, 0, 0, 0) }

func some() api.Auto { return testkit.Auto(2, 1, []int{0}, []int{1}, 0, 0, 1, 1, 0, 1) }

func TestExamples(t *testing.T) {
	for _, o := range []api.Options{{}, {Simul: true}} {
		want(t, question{a: all(), b: all(), options: o}, yes(1), yes(1))
		want(t, question{a: all(), b: some(), options: o}, no(1, 0), no(1, 0))
		want(t, question{a: some(), b: all(), options: o}, no(2, 0), yes(2))
		want(t, question{options: o}, yes(0), yes(0))
	}
	wantNone(t, all(), testkit.Auto(1, 2, nil, nil), 0, api.ErrSymbols)
	if f, e := congr.Include(some(), all(), api.Options{}, 1); e != api.ErrBudget || !testkit.SameFound(f, api.Found{}) {
		t.Errorf("P16.2: Include with a budget of 1: %v, %d", f, e)
	}
}

// TestFirstPair: it is bad ahead of all else, and it is left out if it is one set twice.
func TestFirstPair(t *testing.T) {
	dead, live := testkit.Auto(1, 1, nil, []int{0}, 0, 0, 0), testkit.Auto(2, 1, []int{1}, []int{1})
	wantPlain(t, dead, dead, yes(0), yes(0))
	wantPlain(t, dead, live, no(2, 0), yes(0))
	wantPlain(t, live, dead, no(1, 0), no(1, 0))
	never := testkit.Auto(1, 1, []int{0}, nil, 0, 0, 0)
	wantPlain(t, never, dead, yes(1), yes(1))
	wantPlain(t, dead, never, yes(1), yes(0))
	wantPlain(t, never, never, yes(1), yes(1))
}

// TestWordOrder: pairs are found by symbols, rising, and have their turn in the order in which they were found; the first bad one ends the search, and what was processed by then counts.
func TestWordOrder(t *testing.T) {
	none := testkit.Auto(0, 3, nil, nil)
	// the words are those of states: 1 by 2, 2 by 1, 3 by 1 2, 4 by 2 0, and 5 by what leads on from these
	a := testkit.Auto(6, 3, []int{0}, []int{5}, 0, 2, 1, 0, 1, 2, 2, 2, 3, 1, 0, 4, 3, 0, 5, 4, 1, 5)
	wantPlain(t, a, none, no(1, 4, 1, 2, 0), no(1, 4, 1, 2, 0))
	wantPlain(t, none, a, no(2, 4, 1, 2, 0), yes(0))
	a.Final = []int{4, 3}
	wantPlain(t, a, none, no(1, 2, 1, 2), no(1, 2, 1, 2))
	a.Final = []int{4, 1}
	wantPlain(t, a, none, no(1, 1, 2), no(1, 1, 2))
}

// TestSide: of Equal it tells which of both takes the word; of Include it is 1.
func TestSide(t *testing.T) {
	a, b := testkit.Circle(2, []int{0}), testkit.Circle(3, []int{0, 2})
	wantPlain(t, a, b, no(2, 3, 0, 0, 0), no(1, 4, 0, 0, 0, 0))
	wantPlain(t, b, a, no(1, 3, 0, 0, 0), no(1, 3, 0, 0, 0))
}

// TestLeftOutByOneThatWaits: of one pair that was found twice the one that was found first is left out, for the other one still waits; so the word is that of the other.
func TestLeftOutByOneThatWaits(t *testing.T) {
	none := testkit.Auto(0, 2, nil, nil)
	a := testkit.Auto(3, 2, []int{0}, []int{2}, 0, 0, 1, 0, 1, 1, 1, 0, 2, 1, 1, 2)
	wantPlain(t, a, none, no(1, 2, 1, 0), no(1, 2, 1, 0))
	wantPlain(t, none, a, no(2, 2, 1, 0), yes(0))
}

// TestLeftOutByItself: a pair is not left out by what it says itself, nor by what was left out.
func TestLeftOutByItself(t *testing.T) {
	none := testkit.Auto(0, 1, nil, nil)
	a := testkit.Auto(3, 1, []int{0}, nil, 0, 0, 1, 1, 0, 2, 2, 0, 0)
	wantPlain(t, a, none, yes(3), yes(3))
	three := testkit.Auto(2, 3, []int{0}, nil, 0, 0, 1, 0, 1, 1, 0, 2, 1)
	wantPlain(t, three, testkit.Auto(0, 3, nil, nil), yes(2), yes(2))
}

// TestLeftOutByJoining: by the symbol 2 two states are reached at once; that pair follows from those of the symbols 0 and 1.
func TestLeftOutByJoining(t *testing.T) {
	a := testkit.Auto(3, 3, []int{0}, []int{1, 2}, 0, 0, 1, 0, 1, 2, 0, 2, 1, 0, 2, 2, 1, 0, 1, 2, 0, 2)
	wantPlain(t, a, a, yes(3), yes(3))
	b := a
	b.Edges = append(b.Edges[:len(b.Edges)-1:len(b.Edges)-1], api.Edge{From: 2, Sym: 0, To: 0})
	wantPlain(t, a, b, no(1, 3, 1, 0), no(1, 3, 1, 0))
}

// TestTrim: the pairs are those of the useful parts.
func TestTrim(t *testing.T) {
	// 0 alone is useful: 1 is not reached, from 2 and 3 no end is
	a := testkit.Auto(4, 1, []int{0, 3}, []int{0, 1}, 0, 0, 2, 2, 0, 2, 1, 0, 0, 3, 0, 3)
	b := testkit.Auto(1, 1, []int{0}, []int{0})
	wantPlain(t, a, b, yes(2), yes(2))
	wantPlain(t, b, a, yes(2), yes(1))
	for _, o := range []api.Options{{Trim: true}, {Trim: true, Simul: true}} {
		want(t, question{a: a, b: b, options: o}, yes(1), yes(1))
		want(t, question{a: b, b: a, options: o}, yes(1), yes(1))
	}
}

// seen counts what was held, so that a test can tell whether it has seen enough.
type seen struct{ yes, no, long, searched, fewer, second int }

func unlike(first, second bool) bool { return first != second }

func lacking(first, second bool) bool { return first && !second }

// hold holds both searches, with trimming and without, against the models, and what comes of them.
func (n *seen) hold(t *testing.T, a, b api.Auto) {
	t.Helper()
	equal, include := testkit.Shortest(a, b, unlike), testkit.Shortest(a, b, lacking)
	plain := answers(a, b, false)
	for _, o := range options {
		f := plain
		if o.Trim {
			f = answers(a, b, true)
		}
		q := question{a: a, b: b, options: o}
		want(t, q, f[0], f[1])
		holdRight(t, q, f[0], equal)
		holdRight(t, q, f[1], include)
		holdBudgets(t, q, f)
		if f[0].Yes != plain[0].Yes || f[0].Has != plain[0].Has || f[1].Yes != plain[1].Yes || f[1].Has != plain[1].Has || f[1].Side != plain[1].Side {
			t.Fatalf("P16.4: %v: %v; without trimming %v", q, f, plain)
		}
		if f[0].Pairs < plain[0].Pairs || f[1].Pairs < plain[1].Pairs {
			n.fewer++
		}
	}
	n.count(plain[0])
	n.count(plain[1])
}

func (n *seen) count(f api.Found) {
	if f.Yes {
		n.yes++
	} else {
		n.no++
	}
	if f.Yes && f.Pairs > 4 {
		n.searched++
	}
	if len(f.Word) > 3 {
		n.long++
	}
	if f.Side == 2 {
		n.second++
	}
}

// holdRight says P16.4 of what was found, without trimming and with it; the shortest words that show a no are so long, -1: there is none.
func holdRight(t *testing.T, q question, f api.Found, length int) {
	t.Helper()
	if f.Yes != (length < 0) || f.Has == f.Yes || len(f.Word) < length || len(f.Word) > f.Pairs || f.Pairs >= 1<<(q.a.States+q.b.States) {
		t.Fatalf("P16.4: %v: %v; the shortest word has the length %d", q, f, length)
	}
	if f.Has && (testkit.Reads(q.a, f.Word) != (f.Side == 1) || testkit.Reads(q.b, f.Word) != (f.Side == 2)) {
		t.Fatalf("P16.4: %v: %v; the word is not taken by just the one that Side tells", q, f)
	}
}

// holdBudgets says of budgets around the number of pairs what is answered with them.
func holdBudgets(t *testing.T, q question, found [2]api.Found) {
	t.Helper()
	search := []func(a, b api.Auto, o api.Options, budget int) (api.Found, api.Errno){congr.Equal, congr.Include}
	for i, f := range found {
		for _, budget := range []int{1, f.Pairs / 2, f.Pairs - 1, f.Pairs, f.Pairs + 1, most, -1, lowest} {
			g, e := search[i](q.a, q.b, q.options, budget)
			if budget > 0 && budget < f.Pairs {
				if e != api.ErrBudget || !testkit.SameFound(g, api.Found{}) || g.Word != nil {
					t.Fatalf("P16.4: %v, call %d, budget %d of %d: %v, %d", q, i, budget, f.Pairs, g, e)
				}
			} else if e != api.OK || !testkit.SameFound(g, f) {
				t.Fatalf("P16.4: %v, call %d, budget %d of %d: %v, %d; it should be %v", q, i, budget, f.Pairs, g, e, f)
			}
		}
	}
}

func TestEvery(t *testing.T) {
	var n seen
	for _, c := range []struct{ first, second, symbols int }{{0, 0, 0}, {0, 1, 1}, {1, 0, 1}, {2, 0, 1}, {0, 2, 1}, {1, 1, 0}, {1, 1, 1}, {1, 1, 2}, {1, 2, 0}, {2, 1, 0}, {1, 2, 1}, {2, 1, 1}, {2, 2, 0}} {
		for a := range testkit.Every(c.first, c.symbols) {
			for b := range testkit.Every(c.second, c.symbols) {
				n.hold(t, a, b)
			}
		}
	}
	if n.yes == 0 || n.no == 0 || n.fewer == 0 || n.second == 0 {
		t.Errorf("held were %+v", n)
	}
}

// TestEveryTwo: all automata of two states over one symbol that begin and end somewhere, with all such that have one of a few ways to do so.
func TestEveryTwo(t *testing.T) {
	var n seen
	for a := range testkit.Every(2, 1) {
		if len(a.Start) == 0 || len(a.Final) == 0 {
			continue
		}
		for b := range testkit.Every(2, 1) {
			if len(b.Start) == 1 && b.Start[0] == 0 && len(b.Final) > 0 {
				n.hold(t, a, b)
			}
		}
	}
	if n.yes == 0 || n.no == 0 || n.second == 0 {
		t.Errorf("held were %+v", n)
	}
}

func TestDrawn(t *testing.T) {
	d := testkit.Draw(rand.New(rand.NewPCG(16, 1)).IntN)
	var n seen
	for range 2000 {
		a, b := d.Two(6, 2)
		n.hold(t, a, b)
		a, b = d.Related(5, 2)
		n.hold(t, a, b)
		n.hold(t, b, a)
		for range 2 {
			a, b = d.Hidden(1+d(3), 4+d(6))
			n.hold(t, a, b)
		}
	}
	if n.yes < 1000 || n.no < 1000 || n.long < 50 || n.searched < 500 || n.fewer < 1000 || n.second < 500 {
		t.Errorf("held were %+v", n)
	}
}

// TestDrawnLarger: some more states and symbols.
func TestDrawnLarger(t *testing.T) {
	d := testkit.Draw(rand.New(rand.NewPCG(16, 2)).IntN)
	var n seen
	for range 100 {
		a, b := d.Two(14, 4)
		n.hold(t, a, b)
		a, b = d.Related(5, 4)
		n.hold(t, a, b)
		a, b = d.Hidden(4, 12)
		n.hold(t, a, b)
	}
	if n.yes == 0 || n.no == 0 || n.searched == 0 {
		t.Errorf("held were %+v", n)
	}
}

// TestSelf: every automaton takes the same words as itself, by whatever numbers.
func TestSelf(t *testing.T) {
	d := testkit.Draw(rand.New(rand.NewPCG(16, 3)).IntN)
	for range 500 {
		a := d.Kin(d(12), 3)
		for _, o := range options {
			f, e := congr.Equal(a, d.Renumbered(a), o, 0)
			g, e2 := congr.Include(d.Renumbered(a), a, o, 0)
			if e != api.OK || e2 != api.OK || !f.Yes || !g.Yes {
				t.Fatalf("P16.4: %v and itself: %v, %d; %v, %d", a, f, e, g, e2)
			}
		}
	}
}
