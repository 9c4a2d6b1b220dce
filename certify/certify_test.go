package certify_test

import (
	"math/rand/v2"
	"slices"
	"testing"

	"wordset/antichain"
	"wordset/api"
	"wordset/certify"
	"wordset/testkit"
)

// loop takes every word over one symbol, even those of even length.
func loop() api.Auto { return testkit.Auto(1, 1, []int{0}, []int{0}, 0, 0, 0) }

func even() api.Auto { return testkit.Auto(2, 1, []int{0}, []int{0}, 0, 0, 1, 1, 0, 0) }

func TestExamples(t *testing.T) {
	both := cert([]int{0, 0}, []int{1, 0})
	wantMake(t, even(), loop(), 0, both, api.OK)
	wantMake(t, loop(), even(), 0, api.Cert{}, api.ErrNone)
	wantMake(t, even(), loop(), 1, api.Cert{}, api.ErrBudget)
	wantCheck(t, even(), loop(), both, api.OK)
	wantCheck(t, even(), loop(), cert([]int{1, 0}), api.ErrCert)
	wantCheck(t, even(), loop(), cert([]int{0, 0}), api.ErrCert)
	wantCheck(t, even(), loop(), cert([]int{0, 0}, []int{0, 0}, []int{1, 0}), api.OK)
	wantCheck(t, even(), loop(), cert([]int{0}, []int{1}), api.ErrCert)
	noStart := even()
	noStart.Start = nil
	wantCheck(t, noStart, loop(), api.Cert{}, api.OK)
	for _, wrong := range [][]int{{2, 0}, {0, 0, 0}, {0, 1}} {
		wantCheck(t, even(), loop(), cert([]int{0, 0}, []int{1, 0}, wrong), api.ErrCert)
	}
	wantDrop(t, even(), loop(), cert([]int{0, 0}, []int{1, 0}, []int{0, 0}), both, api.OK)
}

// TestStarts: each start of the first needs a pair of its own, whose set is within the starts of the second; it may be less.
func TestStarts(t *testing.T) {
	a := testkit.Auto(3, 0, []int{2, 0}, []int{1})
	b := testkit.Auto(4, 0, []int{3, 1}, nil)
	for _, first := range [][]int{{0}, {0, 1}, {0, 3}, {0, 1, 3}} {
		for _, second := range [][]int{{2}, {2, 1}, {2, 3}, {2, 1, 3}} {
			wantCheck(t, a, b, cert(first, second), api.OK)
			wantCheck(t, a, b, cert(second, first), api.OK)
		}
		wantCheck(t, a, b, cert(first), api.ErrCert)
		for _, second := range [][]int{{2, 0}, {2, 2}, {2, 0, 1, 3}, {2, 1, 2}, {0, 1}, {1}} {
			wantCheck(t, a, b, cert(first, second), api.ErrCert)
		}
	}
	wantCheck(t, a, b, api.Cert{}, api.ErrCert)
}

// TestEnds: a pair with a final state and no final one in its set spoils a certificate, whether anything leads to it or not.
func TestEnds(t *testing.T) {
	a := testkit.Auto(2, 0, nil, []int{1})
	b := testkit.Auto(3, 0, nil, []int{2})
	for _, good := range [][]int{{0}, {0, 0, 1}, {0, 2}, {1, 2}, {1, 0, 2}, {1, 0, 1, 2}} {
		wantCheck(t, a, b, cert(good), api.OK)
		for _, bad := range [][]int{{1}, {1, 0}, {1, 1}, {1, 0, 1}} {
			wantCheck(t, a, b, cert(bad), api.ErrCert)
			wantCheck(t, a, b, cert(good, bad), api.ErrCert)
			wantCheck(t, a, b, cert(bad, good), api.ErrCert)
		}
	}
}

// TestSteps: for each symbol and each state that it leads to there must be a pair, whose set is within what the symbol leads to.
func TestSteps(t *testing.T) {
	a := testkit.Auto(4, 2, nil, nil, 0, 0, 1, 0, 0, 2, 0, 1, 3)
	b := testkit.Auto(4, 2, nil, nil, 0, 0, 1, 1, 0, 2, 0, 1, 3, 1, 1, 0)
	from := []int{0, 0, 1}
	wantCheck(t, a, b, cert(from, []int{1, 1, 2}, []int{2, 1, 2}, []int{3, 0, 3}), api.OK)
	wantCheck(t, a, b, cert([]int{3}, []int{2, 2}, from, []int{1, 1}), api.OK)
	wantCheck(t, a, b, cert([]int{3}, []int{2, 2}, []int{1, 1}), api.OK)
	for _, c := range []api.Cert{
		cert(from), cert(from, []int{1, 1, 2}, []int{2, 1, 2}), cert(from, []int{1, 1, 2}, []int{3, 0, 3}), cert(from, []int{2, 1, 2}, []int{3, 0, 3}),
		cert(from, []int{1, 0, 1, 2}, []int{2, 1, 2}, []int{3, 0, 3}), cert(from, []int{1, 1, 2}, []int{2, 3}, []int{3, 0, 3}), cert(from, []int{1, 1, 2}, []int{2, 1, 2}, []int{3, 0, 2, 3}),
		cert([]int{0, 0}, []int{1, 2}, []int{2, 1}, []int{3, 3}), cert([]int{0}, []int{1}, []int{2}, []int{3, 0}),
	} {
		wantCheck(t, a, b, c, api.ErrCert)
	}
	// one pair may be there for itself, and one of several is enough
	circle := testkit.Auto(1, 1, nil, nil, 0, 0, 0)
	wantCheck(t, circle, testkit.Circle(1, nil), cert([]int{0, 0}), api.OK)
	wantCheck(t, circle, testkit.Circle(2, nil), cert([]int{0, 0}), api.ErrCert)
	wantCheck(t, circle, testkit.Circle(2, nil), cert([]int{0, 0, 1}), api.OK)
	wantCheck(t, circle, testkit.Circle(3, nil), cert([]int{0, 0, 2}, []int{0, 0, 1}, []int{0, 1}), api.ErrCert)
	wantCheck(t, circle, testkit.Circle(3, nil), cert([]int{0, 0, 2}, []int{0, 0, 1}, []int{0, 1, 2}), api.OK)
}

// TestLeastStay: of two pairs of one state whose sets lie in one another the lesser one stays, though it was kept behind the other; a pair of another state makes no difference.
func TestLeastStay(t *testing.T) {
	b := testkit.Auto(3, 1, []int{0, 1, 2}, nil, 0, 0, 1, 1, 0, 2, 2, 0, 2)
	wantMake(t, testkit.Circle(1, nil), b, 0, cert([]int{0, 2}), api.OK)
	wantMake(t, testkit.Circle(2, nil), b, 0, cert([]int{0, 2}, []int{1, 2}), api.OK)
	wantMake(t, testkit.Circle(3, nil), b, 0, cert([]int{2, 2}, []int{0, 2}, []int{1, 2}), api.OK)
	wantMake(t, testkit.Chain(3), testkit.Circle(1, []int{0}), 0, cert([]int{0, 0}, []int{1, 0}, []int{2, 0}), api.OK)
}

// TestDropTheLast: of several that can be spared the last one goes; what goes may set free one that stands behind it, and then that is the last.
func TestDropTheLast(t *testing.T) {
	two := testkit.Auto(1, 0, []int{0}, nil)
	b := testkit.Auto(3, 0, []int{0, 1, 2}, nil)
	wantDrop(t, two, b, cert([]int{0, 2}, []int{0, 0}, []int{0}), cert([]int{0, 2}), api.OK)
	// the pair of the state 1 alone needs that with the set 1; without it either pair of 0 can go
	a := testkit.Auto(2, 1, []int{0}, nil, 1, 0, 0)
	b = testkit.Auto(3, 1, []int{0, 1}, nil, 2, 0, 1)
	wantDrop(t, a, b, cert([]int{0, 0}, []int{1, 2}, []int{0, 1}), cert([]int{0, 0}), api.OK)
	wantDrop(t, a, b, cert([]int{0, 1}, []int{1, 2}, []int{0, 0}), cert([]int{0, 1}), api.OK)
	wantDrop(t, a, b, cert([]int{1, 2}, []int{0, 0}, []int{0, 1}), cert([]int{0, 1}), api.OK)
}

// TestDropByItself: a pair that only itself needs can go; two that need each other stay, though both together could go.
func TestDropByItself(t *testing.T) {
	one, two := testkit.Auto(1, 1, nil, nil, 0, 0, 0), testkit.Auto(2, 1, nil, nil, 0, 0, 1, 1, 0, 0)
	wantDrop(t, one, loop(), cert([]int{0, 0}), api.Cert{}, api.OK)
	wantDrop(t, one, even(), cert([]int{0, 0}, []int{0, 1}), cert([]int{0, 0}, []int{0, 1}), api.OK)
	wantDrop(t, one, even(), cert([]int{0, 0}, []int{0, 1}, []int{0}), cert([]int{0, 0}, []int{0, 1}), api.OK)
	wantDrop(t, one, even(), cert([]int{0}, []int{0, 0}, []int{0, 1}), api.Cert{}, api.OK)
	wantDrop(t, two, loop(), cert([]int{1, 0}, []int{0, 0}), cert([]int{1, 0}, []int{0, 0}), api.OK)
	wantDrop(t, two, loop(), cert([]int{1, 0}, []int{0, 0}, []int{1}, []int{0}), cert([]int{1}, []int{0}), api.OK)
}

// seen counts what was held, so that a test can tell whether it has seen enough.
type seen struct{ taken, refused, fewer, no, lesser, freed int }

// holdCert holds Check and Drop against the model, and what comes of them.
func (n *seen) holdCert(t *testing.T, a, b api.Auto, c api.Cert) {
	t.Helper()
	if !closed(a, b, c) {
		wantCheck(t, a, b, c, api.ErrCert)
		n.refused++
		return
	}
	n.taken++
	wantCheck(t, a, b, c, api.OK)
	if testkit.Shortest(a, b, func(first, second bool) bool { return first && !second }) >= 0 {
		t.Fatalf("P18.6: %v, %v: %v is closed, and a word of the first is none of the second", a, b, c)
	}
	want := dropped(a, b, c)
	wantDrop(t, a, b, c, want, api.OK)
	wantCheck(t, a, b, want, api.OK)
	for at := range want.Pairs {
		wantCheck(t, a, b, without(want, at), api.ErrCert)
	}
	if len(want.Pairs) < len(c.Pairs) {
		n.fewer++
	}
	if !testkit.SameCert(onePass(a, b, c), want) {
		n.freed++
	}
}

// onePass takes pairs out from the last to the first, and never turns back: so it is not always right.
func onePass(a, b api.Auto, c api.Cert) api.Cert {
	for at := len(c.Pairs) - 1; at >= 0; at-- {
		if less := without(c, at); closed(a, b, less) {
			c = less
		}
	}
	return c
}

// holdMake holds Make against the model, with budgets around the pairs that are kept, and what comes of it.
func (n *seen) holdMake(t *testing.T, a, b api.Auto) {
	t.Helper()
	kept, bad, _ := antichain.Search(a, b, false, 0)
	for _, budget := range []int{0, -1, lowest, 1, len(kept) - 1, len(kept), len(kept) + 1, greatest} {
		want, code := made(a, b, budget)
		wantMake(t, a, b, budget, want, code)
	}
	c, code := certify.Make(a, b, 0)
	yes := testkit.Shortest(a, b, func(first, second bool) bool { return first && !second }) < 0
	if yes != (bad < 0) || code != map[bool]api.Errno{true: api.OK, false: api.ErrNone}[yes] {
		t.Fatalf("P18.7: Make(%v, %v, 0): %d; every word of the first is one of the second: %v", a, b, code, yes)
	}
	if !yes {
		n.no++
		return
	}
	for i, x := range c.Pairs {
		if has(without(c, i), x.State, testkit.Bits(x.Set)) {
			t.Fatalf("P18.7: Make(%v, %v, 0): %v holds one with less than %v", a, b, c, x)
		}
	}
	if len(c.Pairs) < len(kept) {
		n.lesser++
	}
	if !closed(a, b, c) {
		t.Fatalf("P18.7: Make(%v, %v, 0): %v is not closed", a, b, c)
	}
	n.holdCert(t, a, b, c)
}

// everyCert gives all certificates, without doubles, of so many states and others; their pairs in one order.
func everyCert(states, others int) []api.Cert {
	var pairs []api.Pair
	for p := range states {
		for bits := range 1 << others {
			x := pair(p)
			for n := range others {
				if bits>>n&1 == 1 {
					x.Set = append(x.Set, n)
				}
			}
			pairs = append(pairs, x)
		}
	}
	all := []api.Cert{{}}
	for _, x := range pairs {
		for _, c := range all {
			all = append(all, api.Cert{Pairs: append(slices.Clone(c.Pairs), x)})
		}
	}
	return all
}

// TestEvery: all small automata, and all certificates of them.
func TestEvery(t *testing.T) {
	var n seen
	for _, c := range []struct{ first, second, symbols int }{{0, 0, 0}, {0, 0, 1}, {0, 1, 1}, {1, 0, 1}, {2, 0, 1}, {1, 1, 0}, {1, 1, 1}, {1, 1, 2}, {2, 1, 0}, {1, 2, 0}, {1, 2, 1}, {2, 1, 1}, {2, 2, 0}} {
		certs := everyCert(c.first, c.second)
		for a := range testkit.Every(c.first, c.symbols) {
			for b := range testkit.Every(c.second, c.symbols) {
				n.holdMake(t, a, b)
				for _, x := range certs {
					n.holdCert(t, a, b, x)
				}
			}
		}
	}
	if n.taken < 1000 || n.refused < 1000 || n.fewer < 1000 || n.no < 1000 {
		t.Errorf("held were %+v", n)
	}
}

// changed gives a certificate that may have become another: with pairs more or less, or in another order, or with other sets.
func changed(d testkit.Draw, c api.Cert, a, b api.Auto) api.Cert {
	c.Pairs = slices.Clone(c.Pairs)
	for range d(4) {
		n := len(c.Pairs)
		switch d(6) {
		case 0:
			if a.States > 0 {
				c.Pairs = slices.Insert(c.Pairs, d(n+1), drawnPair(d, a, b))
			}
		case 1:
			if n > 0 {
				c = without(c, d(n))
			}
		case 2:
			if n > 0 {
				i := d(n)
				x := c.Pairs[i]
				c.Pairs[i] = pair(x.State, slices.DeleteFunc(slices.Clone(x.Set), func(int) bool { return d(3) == 0 })...)
			}
		case 3:
			if n > 0 {
				c.Pairs = slices.Insert(c.Pairs, d(n+1), c.Pairs[d(n)])
			}
		case 4:
			for i := range n {
				k := i + d(n-i)
				c.Pairs[i], c.Pairs[k] = c.Pairs[k], c.Pairs[i]
			}
		case 5:
			if n > 0 && b.States > 0 {
				x := c.Pairs[d(n)]
				more := slices.Compact(slices.Sorted(slices.Values(append(slices.Clone(x.Set), d(b.States)))))
				c.Pairs = slices.Insert(c.Pairs, d(n+1), pair(x.State, more...))
			}
		}
	}
	return c
}

func drawnPair(d testkit.Draw, a, b api.Auto) api.Pair {
	return pair(d(a.States), slices.Compact(slices.Sorted(slices.Values(d.List(b.States, d(3)))))...)
}

// certsOf gives certificates that are near to closed ones: what a search has kept, or all pairs that words lead to.
func certsOf(d testkit.Draw, a, b api.Auto) []api.Cert {
	var all []api.Cert
	for _, simul := range []bool{false, true} {
		var c api.Cert
		kept, _, _ := antichain.Search(a, b, simul, 0)
		for _, x := range kept {
			c.Pairs = append(c.Pairs, pair(x.State, x.Set...))
		}
		all = append(all, c)
	}
	if c, e := certify.Make(a, b, 0); e == api.OK {
		all = append(all, c)
	}
	for _, c := range all {
		all = append(all, changed(d, c, a, b), changed(d, c, a, b))
	}
	return append(all, api.Cert{Pairs: slices.Concat(all[0].Pairs, all[len(all)-1].Pairs)})
}

func TestDrawn(t *testing.T) {
	d := testkit.Draw(rand.New(rand.NewPCG(18, 1)).IntN)
	var n seen
	for range 1500 {
		a, b := d.Two(5, 2)
		c, e := d.Related(4, 2)
		f, g := d.Hidden(1+d(3), 3+d(4))
		for _, x := range [][2]api.Auto{{a, b}, {c, e}, {e, c}, {f, g}} {
			n.holdMake(t, x[0], x[1])
			for _, y := range certsOf(d, x[0], x[1]) {
				if len(y.Pairs) <= 30 { // the model is slow
					n.holdCert(t, x[0], x[1], y)
				}
			}
		}
	}
	if n.taken < 5000 || n.refused < 5000 || n.fewer < 3000 || n.no < 1000 || n.lesser < 100 {
		t.Errorf("held were %+v", n)
	}
}

// closedPart gives those of some pairs that can stay together in a closed certificate.
func closedPart(a, b api.Auto, c api.Cert) api.Cert {
	for {
		rest := slices.DeleteFunc(slices.Clone(c.Pairs), func(x api.Pair) bool { return !stands(a, b, x, c) })
		if len(rest) == len(c.Pairs) {
			return c
		}
		c.Pairs = rest
	}
}

// TestDrawnSpare: closed certificates in which much can be spared, some of it only once other pairs have gone.
func TestDrawnSpare(t *testing.T) {
	d := testkit.Draw(rand.New(rand.NewPCG(18, 7)).IntN)
	var n seen
	for range 20000 {
		a, b := d.Two(2+d(5), 2)
		if a.States == 0 {
			continue
		}
		var c api.Cert
		for range d(30) {
			c.Pairs = append(c.Pairs, drawnPair(d, a, b))
		}
		c = closedPart(a, b, c)
		a.Start = slices.DeleteFunc(a.Start, func(p int) bool { return !has(c, p, testkit.Bits(b.Start)) })
		n.holdCert(t, a, b, c)
	}
	if n.taken < 10000 || n.fewer < 5000 || n.freed < 300 {
		t.Errorf("held were %+v", n)
	}
}

// TestOrderMakesNoDifference: an automaton's lists may be handed in in any order, with doubles.
func TestOrderMakesNoDifference(t *testing.T) {
	d := testkit.Draw(rand.New(rand.NewPCG(18, 2)).IntN)
	for range 1000 {
		a, b := d.Related(5, 2)
		c := changed(d, certsOf(d, a, b)[0], a, b)
		x := ask(questions{a, b, 0, c, ""})
		if !x.Same(ask(questions{d.Shuffled(a), d.Shuffled(b), 0, c, ""})) || !x.Same(ask(questions{testkit.InOrder(a), testkit.InOrder(b), 0, c, ""})) {
			t.Fatalf("P18.8: other answers in another order: %v, %v, %v", a, b, c)
		}
	}
}
