package minimal_test

import (
	"math/rand/v2"
	"slices"
	"testing"

	"wordset/api"
	"wordset/minimal"
	"wordset/subset"
	"wordset/testkit"
)

// TestMayNotBe: ErrDfa, and nothing else, whatever the other arguments are, whichever of two it is.
func TestMayNotBe(t *testing.T) {
	good := testkit.Dfa(3, 2, 1, []int{2, 0, 2}, 0, 1, 2, 0, 1, 2)
	other := api.Dfa{States: 1, Symbols: 3, Next: []int{0, 0, 0}}
	all := func(x testkit.Answers) {
		t.Helper()
		if slices.ContainsFunc(x.Codes, func(e api.Errno) bool { return e != api.ErrDfa }) || !x.Nothing() {
			t.Errorf("P12.8: the codes are %v; each should be %d, and nothing beside them", x.Codes, api.ErrDfa)
		}
	}
	for _, bad := range append(testkit.SpoiltDfa(good), api.Dfa{}) {
		for _, s := range []int{0, 2, 3, -1, lowest, most} {
			all(ofOne(questions{d: bad, s: s}))
			all(ofOne(questions{d: bad, t: s}))
		}
		for _, beside := range []api.Dfa{good, other, bad} {
			all(ofBoth(questions{d: bad, e: beside}))
			all(ofBoth(questions{d: beside, e: bad}))
		}
	}
}

// TestWrongStates: ErrArg, ahead of ErrNone: also if both are the same.
func TestWrongStates(t *testing.T) {
	for _, d := range []api.Dfa{behind(), testkit.Ring(5, 1), testkit.Dfa(5, 0, 4, nil)} {
		for _, wrong := range []int{5, 6, -1, lowest, most, 1 << 32} {
			wantNoTell(t, d, wrong, 0, api.ErrArg)
			wantNoTell(t, d, 4, wrong, api.ErrArg)
			wantNoTell(t, d, wrong, wrong, api.ErrArg)
		}
		wantNoTell(t, d, 4, 4, api.ErrNone)
		wantNoTell(t, d, 0, 0, api.ErrNone)
	}
}

func TestOtherSymbols(t *testing.T) {
	var all []api.Dfa
	for symbols := range 4 {
		all = append(all, testkit.Ring(2, testkit.Upto(symbols)...), testkit.Dfa(1, symbols, 0, nil, make([]int, symbols)...))
	}
	for _, d := range all {
		for _, e := range all {
			yes, w, code := minimal.Equal(d, e)
			if (code == api.ErrSymbols) != (d.Symbols != e.Symbols) || code != api.OK && (yes || w != nil) {
				t.Errorf("P12.5: Equal of %v, %v: %v, %v, %d", d, e, yes, w, code)
			}
		}
	}
}

// TestLongChains: as many states and symbols as may be, one symbol going on, the numbers rising and falling: each state is parted from the others in a turn of its own.
func TestLongChains(t *testing.T) {
	for _, sym := range []int{0, 64, 127} {
		d := chain(4096, 128, sym)
		wantLong(t, "Minimal", slices.Equal(least(t, d).Next, d.Next))
		r := backwards(d)
		wantLong(t, "Minimal backwards", testkit.SameDfa(least(t, r), d))
		classes, e := minimal.Classes(r)
		wantLong(t, "Classes", e == api.OK && slices.Equal(classes, testkit.Upto(4096)))
		w, e := minimal.Tell(r, 4095, 4094)
		wantLong(t, "Tell", e == api.OK && slices.Equal(w, slices.Repeat([]int{sym}, 4094)))
		words, e := minimal.Access(r)
		wantLong(t, "Access", e == api.OK && slices.Equal(words[0], slices.Repeat([]int{sym}, 4095)) && slices.Equal(words[4000], slices.Repeat([]int{sym}, 95)))
		yes, _, e := minimal.Equal(d, r)
		wantLong(t, "Equal", yes && e == api.OK)
		r.Start--
		yes, w, e = minimal.Equal(d, r)
		wantLong(t, "Equal of others", !yes && e == api.OK && slices.Equal(w, slices.Repeat([]int{sym}, 4094)))
	}
}

func wantLong(t *testing.T, call string, right bool) {
	t.Helper()
	if !right {
		t.Fatalf("P12.8: %s of a long chain", call)
	}
}

// TestFarthest: two of the largest are together more than one may be, and the word that tells them apart has as many symbols as both have states, less two.
func TestFarthest(t *testing.T) {
	d, e := testkit.Ring(4096, 1), testkit.Ring(4095, 1)
	d.Final, e.Final = rhythm()
	yes, w, code := minimal.Equal(d, e)
	if yes || code != api.OK || len(w) != 4096+4095-2 {
		t.Errorf("P12.7: Equal of two rings: %v, %d symbols, %d", yes, len(w), code)
	}
	yes, w, code = minimal.Equal(e, d)
	if yes || code != api.OK || len(w) != 4096+4095-2 {
		t.Errorf("P12.7: Equal of two rings: %v, %d symbols, %d", yes, len(w), code)
	}
}

// rhythm gives the finals of two rings of 4096 and 4095 states that go alike as long as can be. Where both go alike for 8189 steps, the steps that are as many as one ring's states apart must go alike; that leaves two kinds of steps, of which one is final.
func rhythm() (longer, shorter []int) {
	const steps = 4096 + 4095 - 2
	kind := make([]int, steps)
	for i := range kind {
		kind[i] = -1
	}
	todo := []int{0}
	for kind[0] = 1; len(todo) > 0; {
		i := todo[0]
		todo = todo[1:]
		for _, j := range []int{i - 4096, i - 4095, i + 4095, i + 4096} {
			if j >= 0 && j < steps && kind[j] < 0 {
				kind[j] = 1
				todo = append(todo, j)
			}
		}
	}
	for i := range 4096 {
		if kind[i] == 1 {
			longer = append(longer, i)
		}
		if i < 4095 && kind[i] == 1 {
			shorter = append(shorter, i)
		}
	}
	return longer, shorter
}

// TestLarge: as many states and symbols as may be.
func TestLarge(t *testing.T) {
	wide := testkit.Ring(4096, testkit.Upto(128)...)
	m := least(t, wide)
	if m.States != 4096 || m.Symbols != 128 || !slices.Equal(m.Final, []int{0}) || !testkit.SameDfa(least(t, m), m) {
		t.Errorf("P12.4: Minimal of a large ring: %d states", m.States)
	}
	if yes, _, e := minimal.Equal(wide, m); !yes || e != api.OK {
		t.Errorf("P12.5: Equal of a large ring and its least one: %v, %d", yes, e)
	}
	words, e := minimal.Access(wide)
	if e != api.OK || !slices.Equal(words[4095], append([]int{31}, slices.Repeat([]int{127}, 32)...)) {
		t.Errorf("P12.3: Access of a large ring: %v, %d", words[4095], e)
	}
	wide.Final = slices.DeleteFunc(testkit.Upto(4096), func(s int) bool { return s%8 != 5 })
	eight := testkit.Ring(8, testkit.Upto(128)...)
	eight.Final = []int{5}
	wantMinimal(t, wide, modelMinimal(eight))
	classes, e := minimal.Classes(wide)
	if e != api.OK || slices.ContainsFunc(testkit.Upto(4096), func(s int) bool { return classes[s] != s%8 }) {
		t.Errorf("P12.1: Classes of a large ring: %d", e)
	}
	for _, final := range [][]int{nil, testkit.Upto(4096)} {
		wide.Final = final
		if m := least(t, wide); m.States != 1 || len(m.Final) != min(1, len(final)) || len(m.Next) != 128 {
			t.Errorf("P12.4: Minimal of a large ring of %d finals: %v", len(final), m)
		}
	}
	wantEqual(t, testkit.Dfa(4096, 0, 4095, nil), testkit.Dfa(4096, 0, 0, nil))
}

// TestManyDrawn: too many states for the model, but the least one can be looked at.
func TestManyDrawn(t *testing.T) {
	d := testkit.Draw(rand.New(rand.NewPCG(12, 4)).IntN)
	for range 20 {
		symbols := 1 + d(5)
		x := drawn(d, 600, symbols)
		holdLeast(t, x)
		if m := least(t, x); m.States > 4 {
			t.Errorf("P12.4: Minimal of %v: %d states", x, m.States)
		}
		y := d.Dfa(200, symbols)
		holdLeast(t, y)
		yes, w, e := minimal.Equal(x, y)
		if e != api.OK || yes != testkit.SameDfa(least(t, x), least(t, y)) || !yes && testkit.TakesDfa(x, w) == testkit.TakesDfa(y, w) {
			t.Errorf("P12.5: Equal of %v, %v: %v, %v, %d", x, y, yes, w, e)
		}
	}
}

// odd draws what may be and what may not.
func odd(d testkit.Draw) questions {
	q := questions{d: d.OddDfa(), e: d.OddDfa(), s: d.Odd(), t: d.Odd()}
	if d(2) == 0 {
		q.s, q.t = d(4), d(4)
	}
	return q
}

// TestOdd: no call panics, beside an error stands nothing, and the errors come in their order.
func TestOdd(t *testing.T) {
	d := testkit.Draw(rand.New(rand.NewPCG(12, 5)).IntN)
	seen := map[api.Errno]int{}
	for range 20000 {
		q := odd(d)
		valid := subset.Valid(q.d)
		one, both := ofOne(q), ofBoth(q)
		for _, e := range slices.Concat(one.Codes, both.Codes) {
			seen[e]++
		}
		if one.Codes[0] != valid || one.Codes[1] != valid || valid != api.OK && (one.Codes[2] != valid || one.Codes[3] != valid || !one.Nothing()) {
			t.Fatalf("P12.8: %v: the codes are %v", q.d, one.Codes)
		}
		if e := one.Codes[2]; e != api.OK && one.Groups[0] != nil || valid == api.OK && e != api.OK && e != api.ErrNone {
			t.Fatalf("P12.3: Access of %v: %v, %d", q.d, one.Groups[0], e)
		}
		states := q.s >= 0 && q.s < q.d.States && q.t >= 0 && q.t < q.d.States
		if e := one.Codes[3]; e != api.OK && one.Lists[1] != nil || valid == api.OK && (e == api.ErrArg) == states {
			t.Fatalf("P12.2: Tell of %v: %v, %d", q, one.Lists[1], e)
		}
		may := valid == api.OK && subset.Valid(q.e) == api.OK
		if e := both.Codes[0]; e != api.OK && !both.Nothing() || (e == api.ErrDfa) == may || may && (e == api.ErrSymbols) != (q.d.Symbols != q.e.Symbols) {
			t.Fatalf("P12.5: Equal of %v, %v: %d", q.d, q.e, e)
		}
	}
	for _, e := range []api.Errno{api.OK, api.ErrDfa, api.ErrArg, api.ErrSymbols, api.ErrNone} {
		if seen[e] == 0 {
			t.Errorf("nothing that was drawn led to %d", e)
		}
	}
}

func TestMemory(t *testing.T) {
	d := testkit.Draw(rand.New(rand.NewPCG(12, 6)).IntN)
	for i := range 3000 {
		q := odd(d)
		if i%3 > 0 {
			symbols := d(4)
			q = questions{d: drawn(d, 9, symbols), e: d.Dfa(5, symbols), s: d(9), t: d(9)}
		}
		if i%3 == 1 {
			q.d, q.e = least(t, q.d), q.d
		}
		var same [2]func() bool
		q.d, same[0] = testkit.RoomyDfa(q.d)
		q.e, same[1] = testkit.RoomyDfa(q.e)
		unchanged := func() bool { return same[0]() && same[1]() }
		for _, ask := range []func(questions) testkit.Answers{ofOne, ofBoth} {
			if wrong := testkit.Memory(func() testkit.Answers { return ask(q) }, unchanged); wrong != "" {
				t.Fatalf("P12.8: %s: %v", wrong, q)
			}
		}
	}
}

// TestOrderMakesNoDifference: finals may be handed in in any order, with doubles.
func TestOrderMakesNoDifference(t *testing.T) {
	d := testkit.Draw(rand.New(rand.NewPCG(12, 7)).IntN)
	for range 1000 {
		symbols := d(3)
		q := questions{d: d.Dfa(6, symbols), e: d.Dfa(6, symbols), s: d(6), t: d(6)}
		r := q
		for _, x := range []*api.Dfa{&r.d, &r.e} {
			x.Final = slices.Compact(slices.Sorted(slices.Values(x.Final)))
		}
		if !ofOne(q).Same(ofOne(r)) || !ofBoth(q).Same(ofBoth(r)) {
			t.Fatalf("P12.8: other answers in another order: %v", q)
		}
	}
}
