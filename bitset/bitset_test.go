package bitset_test

import (
	"cmp"
	"math"
	"math/rand/v2"
	"slices"
	"strings"
	"testing"

	"wordset/api"
	"wordset/bitset"
)

// edges are the bounds at which words, bytes and the universe begin and end.
var edges = []int{0, 1, 7, 8, 9, 63, 64, 65, 127, 128, 129, 8191, 8192}

// far are numbers that are below no bound.
var far = []int{-1, -63, -64, -65, math.MinInt, math.MaxInt, 8192, 1 << 32, 1<<32 + 1}

func of(t *testing.T, n int, list ...int) *bitset.Set {
	t.Helper()
	s, err := bitset.Of(n, list)
	if s == nil || err != api.OK {
		t.Fatalf("Of(%d, %v): %d", n, list, err)
	}
	return s
}

// wantSet holds every way in which a set tells its numbers against a bound and a rising list.
func wantSet(t *testing.T, what string, s *bitset.Set, n int, list []int) {
	t.Helper()
	if s == nil {
		t.Fatalf("%s: no set", what)
	}
	if s.Bound() != n {
		t.Errorf("%s: Bound() = %d, want %d", what, s.Bound(), n)
	}
	if s.Count() != len(list) {
		t.Errorf("%s: Count() = %d, want %d", what, s.Count(), len(list))
	}
	if got := s.List(); !slices.Equal(got, list) {
		t.Errorf("%s: List() = %v, want %v", what, got, list)
	}
	if got := slices.Collect(s.All()); !slices.Equal(got, list) {
		t.Errorf("%s: All() = %v, want %v", what, got, list)
	}
	for i := -2; i < n+66; i++ {
		at, in := slices.BinarySearch(list, i)
		if s.Has(i) != in {
			t.Fatalf("%s: Has(%d) = %v", what, i, s.Has(i))
		}
		next := -1
		if at < len(list) {
			next = list[at]
		}
		if got := s.Next(i); got != next {
			t.Fatalf("%s: Next(%d) = %d, want %d", what, i, got, next)
		}
	}
}

// lists gives every rising list of numbers below n.
func lists(n int) [][]int {
	var out [][]int
	for mask := range 1 << n {
		list := []int{}
		for i := range n {
			if mask>>i&1 == 1 {
				list = append(list, i)
			}
		}
		out = append(out, list)
	}
	return out
}

// small gives every set with a bound of at most 4.
func small(t *testing.T) []*bitset.Set {
	var out []*bitset.Set
	for n := range 5 {
		for _, list := range lists(n) {
			out = append(out, of(t, n, list...))
		}
	}
	return out
}

// large gives sets of all sizes at the edges' bounds, always the same ones.
func large(t *testing.T) []*bitset.Set {
	r := rand.New(rand.NewPCG(1, 2))
	var out []*bitset.Set
	for _, n := range edges {
		for _, most := range []int{0, 1, 3, n / 2, 4 * n} {
			var list []int
			for range most {
				if n > 0 {
					list = append(list, r.IntN(n))
				}
			}
			out = append(out, of(t, n, list...))
		}
		if n > 0 {
			out = append(out, of(t, n, 0), of(t, n, n-1))
		}
	}
	return out
}

// keep gives the numbers of a rising list of which the test holds.
func keep(list []int, test func(int) bool) []int {
	out := []int{}
	for _, i := range list {
		if test(i) {
			out = append(out, i)
		}
	}
	return out
}

func merged(a, b []int) []int {
	out := slices.Concat(a, b)
	slices.Sort(out)
	return slices.Compact(out)
}

func common(a, b []int) []int {
	return keep(a, func(i int) bool { return slices.Contains(b, i) })
}

func without(a, b []int) []int {
	return keep(a, func(i int) bool { return !slices.Contains(b, i) })
}

// P1.1

func TestNew(t *testing.T) {
	for _, n := range edges {
		s, err := bitset.New(n)
		if err != api.OK {
			t.Fatalf("New(%d): %d", n, err)
		}
		wantSet(t, "New", s, n, nil)
	}
	for _, n := range []int{-1, 8193, 1 << 20, math.MinInt, math.MaxInt, math.MaxInt - 62} {
		if s, err := bitset.New(n); s != nil || err != api.ErrArg {
			t.Errorf("New(%d) = %v, %d", n, s, err)
		}
	}
}

func TestOf(t *testing.T) {
	for n := range 6 {
		for _, list := range lists(n) {
			wantSet(t, "Of", of(t, n, list...), n, list)
			turned := slices.Concat(list, list)
			slices.Reverse(turned)
			wantSet(t, "Of, turned round and twice", of(t, n, turned...), n, list)
		}
	}
	for _, n := range edges[1:] {
		wantSet(t, "Of the greatest", of(t, n, n-1, n-1), n, []int{n - 1})
	}
	wantSet(t, "Of nothing", of(t, 3), 3, nil)
}

func TestOfWrong(t *testing.T) {
	for _, n := range []int{-1, 8193, math.MinInt, math.MaxInt} {
		for _, list := range [][]int{nil, {0}, {-1}, {n}} {
			if s, err := bitset.Of(n, list); s != nil || err != api.ErrArg {
				t.Errorf("Of(%d, %v) = %v, %d", n, list, s, err)
			}
		}
	}
	for _, n := range edges {
		for _, i := range append([]int{n, n + 1, n + 64}, far...) {
			list := []int{i}
			if n > 0 {
				list = []int{0, n - 1, i, 0}
			}
			if s, err := bitset.Of(n, list); s != nil || err != api.ErrRange {
				t.Errorf("Of(%d, %v) = %v, %d", n, list, s, err)
			}
		}
	}
}

// P1.2

func TestTellsAtFarNumbers(t *testing.T) {
	for _, s := range append(small(t), large(t)...) {
		list := s.List()
		least := -1
		if len(list) > 0 {
			least = list[0]
		}
		for _, i := range far {
			if s.Has(i) {
				t.Errorf("bound %d: Has(%d)", s.Bound(), i)
			}
			want := -1
			if i < 0 {
				want = least
			}
			if got := s.Next(i); got != want {
				t.Errorf("bound %d: Next(%d) = %d, want %d", s.Bound(), i, got, want)
			}
		}
	}
}

func TestNextOverEmptyWords(t *testing.T) {
	s := of(t, 8192, 0, 63, 64, 4000, 8191)
	for i, want := range map[int]int{0: 0, 1: 63, 63: 63, 64: 64, 65: 4000, 3999: 4000, 4001: 8191, 8191: 8191, 8192: -1} {
		if got := s.Next(i); got != want {
			t.Errorf("Next(%d) = %d, want %d", i, got, want)
		}
	}
}

// P1.3

func TestAllIsASnapshot(t *testing.T) {
	s := of(t, 9, 1, 2, 7)
	var got []int
	for i := range s.All() {
		if i == 1 {
			s.Remove(7)
			s.Add(8)
		}
		got = append(got, i)
	}
	if !slices.Equal(got, []int{1, 2, 7}) {
		t.Errorf("All() = %v", got)
	}
	wantSet(t, "behind All", s, 9, []int{1, 2, 8})
}

func TestAllAcrossWords(t *testing.T) {
	s := of(t, 300, 0, 100, 200, 299)
	var got []int
	for i := range s.All() {
		s.Clear()
		s.Add(250)
		got = append(got, i)
	}
	if !slices.Equal(got, []int{0, 100, 200, 299}) {
		t.Errorf("All() = %v", got)
	}
}

func TestAllBeginsWhenRangedOver(t *testing.T) {
	s := of(t, 70, 5)
	all := s.All()
	s.Add(69)
	s.Remove(5)
	if got := slices.Collect(all); !slices.Equal(got, []int{69}) {
		t.Errorf("first = %v", got)
	}
	s.Add(0)
	if got := slices.Collect(all); !slices.Equal(got, []int{0, 69}) {
		t.Errorf("again = %v", got)
	}
}

func TestAllLeftEarlyAndWithinItself(t *testing.T) {
	s := of(t, 200, 3, 64, 199)
	all := s.All()
	for stop := range 3 {
		var got []int
		for i := range all {
			got = append(got, i)
			if len(got) > stop {
				break
			}
		}
		if !slices.Equal(got, s.List()[:stop+1]) {
			t.Errorf("left at %d: %v", stop, got)
		}
	}
	var pairs [][2]int
	for i := range all {
		for j := range all {
			pairs = append(pairs, [2]int{i, j})
			if j == i {
				break
			}
		}
	}
	if want := [][2]int{{3, 3}, {64, 3}, {64, 64}, {199, 3}, {199, 64}, {199, 199}}; !slices.Equal(pairs, want) {
		t.Errorf("pairs = %v", pairs)
	}
}

// P1.4

func TestAddAndRemove(t *testing.T) {
	for n := range 5 {
		for _, list := range lists(n) {
			for i := range n {
				s := of(t, n, list...)
				for range 2 {
					if err := s.Add(i); err != api.OK {
						t.Fatalf("Add(%d): %d", i, err)
					}
					wantSet(t, "Add", s, n, merged(list, []int{i}))
				}
				for range 2 {
					if err := s.Remove(i); err != api.OK {
						t.Fatalf("Remove(%d): %d", i, err)
					}
					wantSet(t, "Remove", s, n, without(list, []int{i}))
				}
			}
		}
	}
}

func TestAddAndRemoveOutOfRange(t *testing.T) {
	for _, s := range append(small(t), large(t)...) {
		n, list := s.Bound(), s.List()
		for _, i := range append([]int{n, n + 1, n + 64}, far...) {
			if err := s.Add(i); err != api.ErrRange {
				t.Errorf("bound %d: Add(%d) = %d", n, i, err)
			}
			if err := s.Remove(i); err != api.ErrRange {
				t.Errorf("bound %d: Remove(%d) = %d", n, i, err)
			}
		}
		wantSet(t, "a number out of range", s, n, list)
		if bitset.Not(bitset.Not(s)).Key() != s.Key() {
			t.Errorf("bound %d: a number out of range has left a trace", n)
		}
	}
}

func TestClear(t *testing.T) {
	for _, s := range append(small(t), large(t)...) {
		s.Clear()
		wantSet(t, "Clear", s, s.Bound(), nil)
		if s.Bound() > 0 {
			s.Add(s.Bound() - 1)
			wantSet(t, "Add behind Clear", s, s.Bound(), []int{s.Bound() - 1})
		}
	}
}

// P1.5, P1.6

// doubles are the calls on two sets, with what they make of two lists.
var doubles = []struct {
	name  string
	in    func(s, o *bitset.Set) api.Errno
	anew  func(a, b *bitset.Set) (*bitset.Set, api.Errno)
	lists func(a, b []int) []int
}{
	{"Join, Union", (*bitset.Set).Join, bitset.Union, merged},
	{"Cut, Meet", (*bitset.Set).Cut, bitset.Meet, common},
	{"Drop, Minus", (*bitset.Set).Drop, bitset.Minus, without},
}

func TestTwoSets(t *testing.T) {
	for _, d := range doubles {
		for n := range 5 {
			for _, x := range lists(n) {
				for _, y := range lists(n) {
					a, b := of(t, n, x...), of(t, n, y...)
					made, err := d.anew(a, b)
					if err != api.OK {
						t.Fatalf("%s: %d", d.name, err)
					}
					wantSet(t, d.name, made, n, d.lists(x, y))
					wantSet(t, d.name+": first handed in", a, n, x)
					if err := d.in(a, b); err != api.OK {
						t.Fatalf("%s: %d", d.name, err)
					}
					wantSet(t, d.name, a, n, d.lists(x, y))
					wantSet(t, d.name+": second handed in", b, n, y)
				}
			}
		}
	}
}

func TestTwoLargeSets(t *testing.T) {
	sets := large(t)
	for _, d := range doubles {
		for _, a := range sets {
			for _, b := range sets {
				if a.Bound() != b.Bound() {
					continue
				}
				want := d.lists(a.List(), b.List())
				made, err := d.anew(a, b)
				if err != api.OK || !slices.Equal(made.List(), want) {
					t.Fatalf("%s: bound %d: %d", d.name, a.Bound(), err)
				}
				c := a.Copy()
				if err := d.in(c, b); err != api.OK || !slices.Equal(c.List(), want) {
					t.Fatalf("%s: bound %d: %d", d.name, a.Bound(), err)
				}
			}
		}
	}
}

func TestOneSetTwice(t *testing.T) {
	for _, d := range doubles {
		for _, s := range append(small(t), large(t)...) {
			n, list := s.Bound(), s.List()
			want := d.lists(list, list)
			made, err := d.anew(s, s)
			if err != api.OK {
				t.Fatalf("%s: %d", d.name, err)
			}
			wantSet(t, d.name+" with itself", made, n, want)
			wantSet(t, d.name+" with itself: handed in", s, n, list)
			if err := d.in(s, s); err != api.OK {
				t.Fatalf("%s: %d", d.name, err)
			}
			wantSet(t, d.name+" with itself", s, n, want)
		}
	}
}

func TestTwoBounds(t *testing.T) {
	pairs := [][2]int{{5, 6}, {6, 5}, {0, 1}, {1, 0}, {63, 64}, {64, 65}, {65, 64}, {1, 8192}, {8192, 1}, {8191, 8192}}
	for _, d := range doubles {
		for _, p := range pairs {
			for _, a := range []*bitset.Set{of(t, p[0]), bitset.Not(of(t, p[0]))} {
				for _, b := range []*bitset.Set{of(t, p[1]), bitset.Not(of(t, p[1]))} {
					x, y := a.List(), b.List()
					if err := d.in(a, b); err != api.ErrRange {
						t.Errorf("%s: bounds %v: %d", d.name, p, err)
					}
					if made, err := d.anew(a, b); made != nil || err != api.ErrRange {
						t.Errorf("%s: bounds %v: %v, %d", d.name, p, made, err)
					}
					wantSet(t, d.name+": two bounds", a, p[0], x)
					wantSet(t, d.name+": two bounds", b, p[1], y)
				}
			}
		}
	}
}

func TestNotAndCopy(t *testing.T) {
	for _, s := range append(small(t), large(t)...) {
		n, list := s.Bound(), s.List()
		every := make([]int, n)
		for i := range every {
			every[i] = i
		}
		wantSet(t, "Not", bitset.Not(s), n, keep(every, func(i int) bool {
			_, in := slices.BinarySearch(list, i)
			return !in
		}))
		wantSet(t, "Not: handed in", s, n, list)
		wantSet(t, "Copy", s.Copy(), n, list)
	}
}

func TestAnswersShareNothing(t *testing.T) {
	makers := map[string]func(s *bitset.Set) *bitset.Set{
		"Copy":    (*bitset.Set).Copy,
		"Not":     bitset.Not,
		"Union":   func(s *bitset.Set) *bitset.Set { u, _ := bitset.Union(s, s); return u },
		"Meet":    func(s *bitset.Set) *bitset.Set { u, _ := bitset.Meet(s, s); return u },
		"Minus":   func(s *bitset.Set) *bitset.Set { u, _ := bitset.Minus(s, s); return u },
		"FromKey": func(s *bitset.Set) *bitset.Set { u, _ := bitset.FromKey(s.Key()); return u },
	}
	for name, maker := range makers {
		s := of(t, 130, 0, 64, 129)
		made := maker(s)
		numbers := made.List()
		s.Clear()
		s.Add(65)
		wantSet(t, name+": the old one was changed", made, 130, numbers)
		made.Clear()
		made.Add(7)
		wantSet(t, name+": the new one was changed", s, 130, []int{65})
	}
	s := of(t, 130, 0, 64, 129)
	list := s.List()
	list[0] = 99
	_ = append(list[:0], 5, 6, 7)
	wantSet(t, "List: the answer was changed", s, 130, []int{0, 64, 129})
}

// P1.7

func TestQuestions(t *testing.T) {
	sets := append(small(t), large(t)...)
	for _, a := range sets {
		for _, b := range sets {
			x, y := a.List(), b.List()
			one := a.Bound() == b.Bound()
			if got, want := bitset.Equal(a, b), one && slices.Equal(x, y); got != want {
				t.Errorf("Equal of bounds %d, %d = %v", a.Bound(), b.Bound(), got)
			}
			if got, want := bitset.Subset(a, b), one && isSubset(x, y); got != want {
				t.Errorf("Subset of bounds %d, %d = %v", a.Bound(), b.Bound(), got)
			}
			if got, want := bitset.Meets(a, b), one && len(without(x, y)) < len(x); got != want {
				t.Errorf("Meets of bounds %d, %d = %v", a.Bound(), b.Bound(), got)
			}
		}
	}
}

func isSubset(x, y []int) bool {
	for _, i := range x {
		if _, in := slices.BinarySearch(y, i); !in {
			return false
		}
	}
	return true
}

// P1.8

// orderOf says Compare as the document does, by bounds, lengths and lists.
func orderOf(a, b *bitset.Set) int {
	x, y := a.List(), b.List()
	return cmp.Or(cmp.Compare(a.Bound(), b.Bound()), cmp.Compare(len(x), len(y)), slices.Compare(x, y))
}

func TestCompare(t *testing.T) {
	sets := append(small(t), large(t)...)
	sets = append(sets, of(t, 200, 0, 199), of(t, 200, 70, 71), of(t, 200, 0, 70), of(t, 200, 63, 64), of(t, 200, 63, 199))
	for _, a := range sets {
		for _, b := range sets {
			got, want := bitset.Compare(a, b), orderOf(a, b)
			if got != want {
				t.Errorf("Compare(%d: %.20v, %d: %.20v) = %d, want %d", a.Bound(), a.List(), b.Bound(), b.List(), got, want)
			}
			if (got == 0) != bitset.Equal(a, b) {
				t.Errorf("Compare is %d, Equal is %v", got, bitset.Equal(a, b))
			}
		}
	}
}

// P1.9

// keyOf lays a key bit by bit, as the document says it.
func keyOf(n int, list []int) string {
	key := make([]byte, 2+(n+7)/8)
	key[0], key[1] = byte(n/256), byte(n%256)
	for _, i := range list {
		key[2+i/8] += 1 << (i % 8)
	}
	return string(key)
}

func TestKey(t *testing.T) {
	for _, s := range append(small(t), large(t)...) {
		n, list := s.Bound(), s.List()
		key := s.Key()
		if key != keyOf(n, list) {
			t.Errorf("bound %d: Key() = %.40x", n, key)
		}
		back, err := bitset.FromKey(key)
		if err != api.OK {
			t.Fatalf("FromKey(%.40x): %d", key, err)
		}
		wantSet(t, "FromKey", back, n, list)
		if back.Key() != key {
			t.Errorf("bound %d: the key of FromKey differs", n)
		}
	}
}

func TestFromKeyOfShortTexts(t *testing.T) {
	for n := range 17 {
		size := (n + 7) / 8
		for length := range 4 {
			for _, tail := range []byte{0, 1, 0x7f, 0x80, 0xff, byte(1 << (n % 8))} {
				bits := strings.Repeat("\x01", length)
				if length > 0 {
					bits = bits[1:] + string([]byte{tail})
				}
				key := string([]byte{0, byte(n)}) + bits
				fits := length == size && (n%8 == 0 || tail < 1<<(n%8))
				s, err := bitset.FromKey(key)
				if fits && (err != api.OK || s.Key() != key) {
					t.Errorf("FromKey(%x): %d", key, err)
				}
				if !fits && (s != nil || err != api.ErrKey) {
					t.Errorf("FromKey(%x) = %v, %d", key, s, err)
				}
			}
		}
	}
}

func TestFromKeyWrong(t *testing.T) {
	zeros := func(n int) string { return strings.Repeat("\x00", n) }
	for _, key := range []string{
		"", "\x00", "\x20", "\x00\x01", "\x00\x00\x00", "\xff\xff", "\xff\xff" + zeros(8192),
		"\x20\x00", "\x20\x00" + zeros(1023), "\x20\x00" + zeros(1025), "\x20\x01" + zeros(1024), "\x20\x01" + zeros(1025),
		"\x1f\xff" + zeros(1023) + "\x80", "\x00\x3f" + zeros(7) + "\x80", "\x00\x41" + zeros(8) + "\x02",
	} {
		if s, err := bitset.FromKey(key); s != nil || err != api.ErrKey {
			t.Errorf("FromKey(%.20x) = %v, %d", key, s, err)
		}
	}
}

// P1.10

func union(a, b *bitset.Set) *bitset.Set { u, _ := bitset.Union(a, b); return u }
func meet(a, b *bitset.Set) *bitset.Set  { u, _ := bitset.Meet(a, b); return u }
func minus(a, b *bitset.Set) *bitset.Set { u, _ := bitset.Minus(a, b); return u }

func TestLawsOfSets(t *testing.T) {
	for _, sets := range [][]*bitset.Set{lawSets(t, 0), lawSets(t, 3), lawSets(t, 64), lawSets(t, 65), lawSets(t, 8192)} {
		for _, a := range sets {
			one(t, a)
			for _, b := range sets {
				two(t, a, b)
				for _, c := range sets {
					three(t, a, b, c)
				}
			}
		}
	}
}

func lawSets(t *testing.T, n int) []*bitset.Set {
	var out []*bitset.Set
	if n < 4 {
		for _, list := range lists(n) {
			out = append(out, of(t, n, list...))
		}
		return out
	}
	r := rand.New(rand.NewPCG(3, uint64(n)))
	for range 6 {
		var list []int
		for range r.IntN(2 * n) {
			list = append(list, r.IntN(n))
		}
		out = append(out, of(t, n, list...))
	}
	return append(out, of(t, n), bitset.Not(of(t, n)))
}

func law(t *testing.T, name string, a, b *bitset.Set) {
	t.Helper()
	if !bitset.Equal(a, b) || a.Key() != b.Key() || bitset.Compare(a, b) != 0 {
		t.Errorf("%s: %.20v is not %.20v", name, a.List(), b.List())
	}
}

func one(t *testing.T, a *bitset.Set) {
	law(t, "Union with itself", union(a, a), a)
	law(t, "Meet with itself", meet(a, a), a)
	law(t, "Not twice", bitset.Not(bitset.Not(a)), a)
}

func two(t *testing.T, a, b *bitset.Set) {
	law(t, "order of Union", union(a, b), union(b, a))
	law(t, "order of Meet", meet(a, b), meet(b, a))
	law(t, "De Morgan", bitset.Not(union(a, b)), meet(bitset.Not(a), bitset.Not(b)))
	law(t, "De Morgan", bitset.Not(meet(a, b)), union(bitset.Not(a), bitset.Not(b)))
	law(t, "Minus", minus(a, b), meet(a, bitset.Not(b)))
	sub := bitset.Subset(a, b)
	if sub != bitset.Equal(union(a, b), b) || sub != bitset.Equal(meet(a, b), a) {
		t.Errorf("Subset(%.20v, %.20v) = %v", a.List(), b.List(), sub)
	}
	if (a.Key() == b.Key()) != bitset.Equal(a, b) {
		t.Errorf("keys and Equal of %.20v, %.20v", a.List(), b.List())
	}
	if bitset.Compare(a, b) != -bitset.Compare(b, a) {
		t.Errorf("Compare(%.20v, %.20v) the other way round", a.List(), b.List())
	}
}

func three(t *testing.T, a, b, c *bitset.Set) {
	law(t, "brackets of Union", union(a, union(b, c)), union(union(a, b), c))
	law(t, "brackets of Meet", meet(a, meet(b, c)), meet(meet(a, b), c))
	law(t, "Meet over Union", meet(a, union(b, c)), union(meet(a, b), meet(a, c)))
	law(t, "Union over Meet", union(a, meet(b, c)), meet(union(a, b), union(a, c)))
	if bitset.Compare(a, b) <= 0 && bitset.Compare(b, c) <= 0 && bitset.Compare(a, c) > 0 {
		t.Errorf("Compare: %.20v, %.20v, %.20v", a.List(), b.List(), c.List())
	}
}

func TestKeysTellSetsApart(t *testing.T) {
	seen := map[string]*bitset.Set{}
	for _, s := range append(small(t), large(t)...) {
		if old := seen[s.Key()]; old != nil && !bitset.Equal(old, s) {
			t.Errorf("%d: %.20v and %d: %.20v have one key", old.Bound(), old.List(), s.Bound(), s.List())
		}
		seen[s.Key()] = s
	}
}

// P1.11

func TestWhatIsHandedInStays(t *testing.T) {
	backing := []int{4, 2, 4, 77, 78}
	list := backing[:3]
	s := of(t, 5, list...)
	if _, err := bitset.Of(5, list); err != api.OK {
		t.Fatal(err)
	}
	if _, err := bitset.Of(3, list); err != api.ErrRange {
		t.Fatal(err)
	}
	if !slices.Equal(backing, []int{4, 2, 4, 77, 78}) {
		t.Errorf("the list is %v now", backing)
	}
	list[0] = 0
	wantSet(t, "the list was changed behind Of", s, 5, []int{2, 4})
	other := of(t, 5, 1, 2)
	bitset.Subset(s, other)
	bitset.Equal(s, other)
	bitset.Meets(s, other)
	bitset.Compare(s, other)
	s.Key()
	wantSet(t, "asked: first", s, 5, []int{2, 4})
	wantSet(t, "asked: second", other, 5, []int{1, 2})
}

func TestNoSetAtAll(t *testing.T) {
	s := of(t, 5, 1)
	for _, d := range doubles {
		if err := d.in(s, nil); err != api.ErrRange {
			t.Errorf("%s of no set: %d", d.name, err)
		}
		for _, p := range [][2]*bitset.Set{{s, nil}, {nil, s}, {nil, nil}} {
			if made, err := d.anew(p[0], p[1]); made != nil || err != api.ErrRange {
				t.Errorf("%s of no set: %v, %d", d.name, made, err)
			}
		}
	}
	if bitset.Not(nil) != nil {
		t.Error("Not of no set")
	}
	if bitset.Subset(s, nil) || bitset.Subset(nil, s) || bitset.Meets(s, nil) || bitset.Meets(nil, s) || bitset.Equal(s, nil) || bitset.Equal(nil, s) {
		t.Error("a set and no set are alike")
	}
	if bitset.Compare(nil, s) != -1 || bitset.Compare(s, nil) != 1 || bitset.Compare(nil, nil) != 0 || !bitset.Equal(nil, nil) {
		t.Error("Compare of no set")
	}
	wantSet(t, "beside no set", s, 5, []int{1})
}

// The chapter's table of examples, row by row (its last row is TestAllIsASnapshot).

func TestExamples(t *testing.T) {
	s := of(t, 5, 3, 1, 3)
	if !slices.Equal(s.List(), []int{1, 3}) || s.Count() != 2 || !s.Has(3) || s.Has(5) || s.Has(-1) {
		t.Error("row 1")
	}
	if s.Next(-9) != 1 || s.Next(2) != 3 || s.Next(4) != -1 || s.Next(3) != 3 {
		t.Error("row 2")
	}
	if s.Key() != "\x00\x05\x0a" || of(t, 9, 0, 8).Key() != "\x00\x09\x01\x01" || of(t, 0).Key() != "\x00\x00" {
		t.Error("row 3")
	}
	if x, err := bitset.FromKey("\x00\x05\x0a"); err != api.OK || !bitset.Equal(x, s) {
		t.Error("row 4")
	}
	for _, key := range []string{"\x00\x05\x2a", "\x00\x05", "\x00\x05\x0a\x00", "\x20\x01" + strings.Repeat("\x00", 1025)} {
		if x, err := bitset.FromKey(key); x != nil || err != api.ErrKey {
			t.Errorf("row 4: %.20x", key)
		}
	}
	if !slices.Equal(bitset.Not(s).List(), []int{0, 2, 4}) || bitset.Not(of(t, 64)).Count() != 64 || bitset.Not(of(t, 65)).Count() != 65 {
		t.Error("row 5")
	}
	if bitset.Compare(s, of(t, 5, 1, 4)) != -1 || bitset.Compare(s, of(t, 5, 4)) != 1 || bitset.Compare(s, of(t, 6)) != -1 || bitset.Compare(s, s) != 0 {
		t.Error("row 6")
	}
	if x, err := bitset.Union(s, of(t, 6, 1)); x != nil || err != api.ErrRange || s.Join(of(t, 6, 1)) != api.ErrRange || bitset.Subset(s, of(t, 6, 1, 3)) {
		t.Error("row 7")
	}
	u := of(t, 5, 1)
	if s.Drop(s) != api.OK || s.Count() != 0 || u.Cut(of(t, 5, 2)) != api.OK || u.Count() != 0 {
		t.Error("row 8")
	}
	for _, n := range []int{-1, 8193} {
		if x, err := bitset.New(n); x != nil || err != api.ErrArg {
			t.Error("row 9")
		}
	}
	for _, i := range []int{3, -1} {
		if x, err := bitset.Of(3, []int{i}); x != nil || err != api.ErrRange {
			t.Error("row 9")
		}
	}
}
