package certify_test

import (
	"math/rand/v2"
	"slices"
	"testing"

	"wordset/api"
	"wordset/certify"
	"wordset/nfa"
	"wordset/testkit"
)

// TestMayNotBe: ErrAuto, and nothing else, whichever of both it is, whatever else is wrong.
func TestMayNotBe(t *testing.T) {
	good := testkit.Auto(3, 2, []int{2, 1}, []int{0, 0}, 0, 1, 1, 2, 0, 2)
	other, great := testkit.Auto(1, 3, []int{0}, []int{0}), testkit.Auto(4096, 2, nil, nil)
	wrong := append(testkit.Spoilt(good), api.Auto{Start: []int{0}}, api.Auto{Final: []int{0}}, testkit.Auto(1, 1, nil, nil, 0, 0, 1), testkit.Auto(1, 0, nil, nil, 0, 0, 0))
	for _, bad := range wrong {
		for _, beside := range []api.Auto{good, other, great, bad, {}} {
			wantNeither(t, bad, beside, api.ErrAuto)
			wantNeither(t, beside, bad, api.ErrAuto)
		}
	}
}

func TestOtherSymbols(t *testing.T) {
	for first := range 4 {
		for second := range 4 {
			a, b := testkit.Auto(1, first, []int{0}, []int{0}), testkit.Auto(2, second, []int{1}, []int{1})
			if first != second {
				wantNeither(t, a, b, api.ErrSymbols)
				continue
			}
			wantMake(t, a, b, 1, cert([]int{0, 1}), api.OK)
			wantCheck(t, a, b, cert([]int{0, 1}), api.OK)
		}
	}
	wantNeither(t, testkit.Auto(4096, 1, nil, nil), testkit.Auto(4096, 2, nil, nil), api.ErrSymbols)
}

// TestSizes: Make takes no two automata that are too large together; Check and Drop do not ask that.
func TestSizes(t *testing.T) {
	bare := func(states int) api.Auto { return testkit.Auto(states, 1, nil, nil) }
	full, one := testkit.Crowd(256, 65536), loop()
	for _, c := range [][2]api.Auto{{bare(4096), bare(1)}, {bare(1), bare(4096)}, {bare(4096), bare(4096)}, {full, one}, {one, full}, {full, full}} {
		for _, budget := range []int{0, 1, -1} {
			wantMake(t, c[0], c[1], budget, api.Cert{}, api.ErrSize)
		}
	}
	wantMake(t, bare(4095), bare(1), 0, api.Cert{}, api.OK)
	wantMake(t, bare(0), bare(4096), 0, api.Cert{}, api.OK)
	last := cert([]int{4095}, []int{4095, 0, 4095})
	wantCheck(t, bare(4096), bare(4096), last, api.OK)
	wantDrop(t, bare(4096), bare(4096), last, api.Cert{}, api.OK)
	wantCheck(t, bare(4095), bare(4096), last, api.ErrCert)
	wantCheck(t, bare(4096), bare(4095), last, api.ErrCert)
	var all, none api.Cert
	for p := range 256 {
		all.Pairs = append(all.Pairs, pair(p, testkit.Upto(256)...))
		none.Pairs = append(none.Pairs, pair(p))
	}
	wantCheck(t, full, full, all, api.OK)
	wantDrop(t, full, full, all, all, api.OK)
	wantCheck(t, full, full, none, api.ErrCert)
	wantCheck(t, full, full, without(all, 100), api.ErrCert)
	full.Final = nil
	wantDrop(t, full, full, api.Cert{Pairs: slices.Concat(all.Pairs, none.Pairs)}, none, api.OK)
}

// TestWrongCerts: a number out of its range, or a set that does not rise, though what is asked for would be there.
func TestWrongCerts(t *testing.T) {
	a, b := testkit.Auto(2, 1, nil, nil, 0, 0, 1, 1, 0, 0), testkit.Auto(3, 1, nil, nil)
	good := cert([]int{0}, []int{1})
	wantCheck(t, a, b, good, api.OK)
	for _, wrong := range [][]int{{-1}, {2}, {lowest}, {greatest}, {0, -1}, {0, 3}, {1, lowest}, {1, greatest}, {0, 1, 1}, {1, 2, 1}, {1, 0, 1, 0}, {0, 1, 2, 3}, {1, -1, 0}, {3, 0}} {
		wantCheck(t, a, b, cert(wrong), api.ErrCert)
		wantCheck(t, a, b, cert([]int{0}, []int{1}, wrong), api.ErrCert)
		wantCheck(t, a, b, cert(wrong, []int{0}, []int{1}), api.ErrCert)
	}
	many := api.Cert{Pairs: slices.Repeat(good.Pairs, 2048)}
	wantCheck(t, a, b, many, api.OK)
	many.Pairs = append(many.Pairs, pair(0))
	wantCheck(t, a, b, many, api.ErrCert)
	wantCheck(t, api.Auto{}, api.Auto{}, api.Cert{}, api.OK)
	wantCheck(t, api.Auto{}, api.Auto{}, cert([]int{0}), api.ErrCert)
}

// rings gives two rings whose lengths have nothing in common, so that they meet in all pairs; beside the first stand some states that begin and do nothing.
func rings(first, second, more int) (api.Auto, api.Auto) {
	a := testkit.Circle(first, testkit.Upto(first))
	for range more {
		a.Start = append(a.Start, a.States)
		a.States++
	}
	return a, testkit.Circle(second, testkit.Upto(second))
}

// TestManyPairs: as many as a certificate may have, and one more; no pair can be spared.
func TestManyPairs(t *testing.T) {
	a, b := rings(63, 65, 1)
	c, e := certify.Make(a, b, 0)
	if e != api.OK || len(c.Pairs) != 4096 {
		t.Fatalf("P18.2: %d pairs, %d", len(c.Pairs), e)
	}
	wantMake(t, a, b, 4096, c, api.OK)
	wantMake(t, a, b, 4095, api.Cert{}, api.ErrBudget)
	wantCheck(t, a, b, c, api.OK)
	wantDrop(t, a, b, c, c, api.OK)
	for _, at := range []int{0, 1, 2, 2000, 4095} {
		wantCheck(t, a, b, without(c, at), api.ErrCert)
	}
	wantParse(t, printed(c), c, api.Problem{})
	a, b = rings(63, 65, 2)
	wantMake(t, a, b, 0, api.Cert{}, api.ErrSize)
	wantMake(t, a, b, 4097, api.Cert{}, api.ErrSize)
	wantMake(t, a, b, 4096, api.Cert{}, api.ErrBudget)
	// what the search finds in the end goes ahead of how many pairs there are
	wantMake(t, testkit.Circle(65, []int{64}), testkit.Circle(66, testkit.Upto(65)), 0, api.Cert{}, api.ErrNone)
	wantMake(t, testkit.Circle(65, []int{64}), testkit.Circle(66, testkit.Upto(66)), 0, api.Cert{}, api.ErrSize)
}

// shrinking gives an automaton that begins at all its states, and whose states go one by one.
func shrinking(n int) api.Auto {
	b := testkit.Chain(n)
	b.Start, b.Final = testkit.Upto(n), nil
	return b
}

// TestManyKept: what is counted are the pairs that stay, however many were kept.
func TestManyKept(t *testing.T) {
	a := testkit.Auto(2, 1, []int{0, 1}, nil, 0, 0, 0, 1, 0, 1)
	wantMake(t, a, shrinking(4000), 8002, cert([]int{0}, []int{1}), api.OK)
	wantMake(t, a, shrinking(4000), 8001, api.Cert{}, api.ErrBudget)
}

// TestDropMany: of as many pairs as may be just a few stay, or none.
func TestDropMany(t *testing.T) {
	same := api.Cert{Pairs: slices.Repeat([]api.Pair{pair(0, 0)}, 4096)}
	wantDrop(t, loop(), loop(), same, cert([]int{0, 0}), api.OK)
	one, b := testkit.Auto(1, 1, []int{0}, nil, 0, 0, 0), shrinking(4095)
	var sets, states api.Cert
	for i := range 4096 {
		sets.Pairs = append(sets.Pairs, pair(0, testkit.Upto(4095)[i:]...))
		states.Pairs = append(states.Pairs, pair(i))
	}
	wantCheck(t, one, b, sets, api.OK)
	wantCheck(t, one, b, without(sets, 4095), api.ErrCert)
	wantDrop(t, one, b, sets, cert([]int{0}), api.OK)
	slices.Reverse(sets.Pairs)
	wantDrop(t, one, b, sets, cert([]int{0}), api.OK)
	// each one is needed by the one ahead of it, and the first one by none; the other way round the last goes first
	chain := testkit.Chain(4096)
	chain.Start, chain.Final = nil, nil
	none := testkit.Auto(0, 1, nil, nil)
	wantCheck(t, chain, none, states, api.OK)
	wantDrop(t, chain, none, states, api.Cert{}, api.OK)
	slices.Reverse(states.Pairs)
	wantDrop(t, chain, none, states, api.Cert{}, api.OK)
	chain.Start = []int{4000}
	wantDrop(t, chain, none, states, api.Cert{Pairs: states.Pairs[:96]}, api.OK)
}

// TestLetters: as a whole the second automaton would have 2^2047 sets; a certificate needs a few pairs.
func TestLetters(t *testing.T) {
	a := testkit.Letter(2048)
	c, e := certify.Make(a, a, 0)
	if e != api.OK || len(c.Pairs) == 0 || len(c.Pairs) > 2048 {
		t.Fatalf("P18.2: %d pairs, %d", len(c.Pairs), e)
	}
	wantCheck(t, a, a, c, api.OK)
	d, e := certify.Drop(a, a, c)
	if e != api.OK || len(d.Pairs) == 0 || certify.Check(a, a, d) != api.OK {
		t.Errorf("P18.7: of %d pairs stay %d, %d", len(c.Pairs), len(d.Pairs), e)
	}
}

// odd draws what may be and what may not, most of it small.
func odd(d testkit.Draw) questions {
	a, b := d.Two(4, 2)
	if d(2) == 0 {
		a, b = d.Related(3, 2)
	}
	q := questions{a, b, d.Odd(), certsOf(d, a, b)[d(3)], printed(printable(d))}
	if d(3) == 0 {
		q.text = altered(d, q.text)
	}
	if d(3) == 0 {
		q.c = api.Cert{}
		for range d(4) {
			q.c.Pairs = append(q.c.Pairs, pair(d.Odd(), d.OddList()...))
		}
	}
	switch d(8) {
	case 0:
		q.a = d.OddAuto()
	case 1:
		q.b = d.OddAuto()
	case 2:
		q.a, q.b = d.OddAuto(), d.OddAuto()
	case 3:
		q.b.Symbols = d(4)
	}
	return q
}

// large tells whether an automaton that may be is too large for the model.
func large(a api.Auto) bool { return a.States > 60 && a.States <= api.MaxStates }

// codes says which codes there should be: of Make, Check, Drop, Print and Parse.
func codes(q questions) []api.Errno {
	_, one := made(q.a, q.b, q.budget)
	two := api.ErrCert
	switch _, e := nfa.Union(q.a, q.b); {
	case e == api.ErrAuto || e == api.ErrSymbols:
		two = e
	case closed(q.a, q.b, q.c):
		two = api.OK
	}
	three := api.ErrCert
	if mayBe(q.c, 4096, 4096) {
		three = api.OK
	}
	_, p := parsed(q.text)
	return []api.Errno{one, two, two, three, p.Code}
}

// TestOdd: no call panics, beside an error stands nothing, and the errors come in their order.
func TestOdd(t *testing.T) {
	d := testkit.Draw(rand.New(rand.NewPCG(18, 5)).IntN)
	seen := map[api.Errno]int{}
	for range 20000 {
		q := odd(d)
		if large(q.a) || large(q.b) {
			ask(q)
			continue
		}
		want, x := codes(q), ask(q)
		if !slices.Equal(x.Codes, want) {
			t.Fatalf("P18.8: %v: the codes are %v; they should be %v", q, x.Codes, want)
		}
		for i, at := range []int{0, 2, 4} {
			if want[at] != api.OK && x.Certs[i].Pairs != nil {
				t.Fatalf("P18.8: %v: beside %d stands %v", q, want[at], x.Certs[i])
			}
		}
		if (x.Texts[0] == "") != (want[3] != api.OK) || want[4] == api.OK && x.Places[0] != 0 {
			t.Fatalf("P18.8: %v: %q, %d", q, x.Texts[0], x.Places[0])
		}
		for _, e := range want {
			seen[e]++
		}
	}
	for _, e := range []api.Errno{api.OK, api.ErrAuto, api.ErrSymbols, api.ErrCert, api.ErrBudget, api.ErrNone} {
		if seen[e] < 20 {
			t.Errorf("P18.8: nearly nothing that was drawn led to %d: %v", e, seen)
		}
	}
}

func TestMemory(t *testing.T) {
	d := testkit.Draw(rand.New(rand.NewPCG(18, 6)).IntN)
	answered := 0
	for range 4000 {
		q := odd(d)
		if large(q.a) || large(q.b) {
			continue
		}
		var same [3]func() bool
		q.a, same[0] = testkit.RoomyAuto(q.a)
		q.b, same[1] = testkit.RoomyAuto(q.b)
		q.c, same[2] = testkit.RoomyCert(q.c)
		if wrong := testkit.Memory(func() testkit.Answers { return ask(q) }, func() bool { return same[0]() && same[1]() && same[2]() }); wrong != "" {
			t.Fatalf("P18.8: %s: %v", wrong, q)
		}
		if d, e := certify.Drop(q.a, q.b, q.c); e == api.OK && len(d.Pairs) > 1 {
			answered++
		}
	}
	if answered < 100 {
		t.Errorf("P18.8: %d certificates had pairs to look at", answered)
	}
}
