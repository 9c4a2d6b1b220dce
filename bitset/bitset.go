// Package bitset is layer 1: sets of numbers below a bound: see shared/doc/01-bitset.md.
package bitset

import (
	"cmp"
	"iter"
	"math/bits"
	"slices"

	"wordset/api"
)

const (
	wordBits = 64
	byteBits = 8
	keyHead  = 2 // a key's bytes ahead of its bits
)

// Set is a set of numbers below a bound, which never changes.
type Set struct {
	bound int
	words []uint64 // bits at or above the bound stay 0: Count, Equal and Key take whole words
}

// New makes the empty set of numbers below n.
func New(n int) (*Set, api.Errno) {
	if n < 0 || n > api.MaxUniverse {
		return nil, api.ErrArg
	}
	return &Set{bound: n, words: make([]uint64, (n+wordBits-1)/wordBits)}, api.OK
}

// Of makes a set of numbers below n that holds those of a list.
func Of(n int, list []int) (*Set, api.Errno) {
	s, err := New(n)
	if err != api.OK {
		return nil, err
	}
	for _, i := range list {
		if err := s.Add(i); err != api.OK {
			return nil, err
		}
	}
	return s, api.OK
}

// Bound tells the bound.
func (s *Set) Bound() int { return s.bound }

// Count counts the numbers in it.
func (s *Set) Count() int {
	n := 0
	for _, w := range s.words {
		n += bits.OnesCount64(w)
	}
	return n
}

// Has tells whether a number is in it.
func (s *Set) Has(i int) bool {
	return s.inRange(i) && s.words[i/wordBits]&bit(i) != 0
}

// Add puts a number in.
func (s *Set) Add(i int) api.Errno {
	if !s.inRange(i) {
		return api.ErrRange
	}
	s.words[i/wordBits] |= bit(i)
	return api.OK
}

// Remove takes a number out.
func (s *Set) Remove(i int) api.Errno {
	if !s.inRange(i) {
		return api.ErrRange
	}
	s.words[i/wordBits] &^= bit(i)
	return api.OK
}

// Clear takes all numbers out.
func (s *Set) Clear() { clear(s.words) }

// List tells the numbers, rising.
func (s *Set) List() []int {
	list := make([]int, 0, s.Count())
	walk(s.words, func(i int) bool {
		list = append(list, i)
		return true
	})
	return list
}

// All goes through the numbers, rising, as they are when it begins.
func (s *Set) All() iter.Seq[int] {
	return func(yield func(int) bool) {
		// The body that ranges may change the set: it must not change what is gone through.
		walk(slices.Clone(s.words), yield)
	}
}

// Next tells the least number in it at or above i, -1: none.
func (s *Set) Next(i int) int {
	i = max(i, 0)
	if i >= s.bound {
		return -1
	}
	k := i / wordBits
	w := s.words[k] &^ (bit(i) - 1)
	for w == 0 {
		k++
		if k == len(s.words) {
			return -1
		}
		w = s.words[k]
	}
	return k*wordBits + bits.TrailingZeros64(w)
}

// Copy makes a set of its own with the same numbers.
func (s *Set) Copy() *Set {
	return &Set{bound: s.bound, words: slices.Clone(s.words)}
}

// Join puts all numbers of another set in.
func (s *Set) Join(o *Set) api.Errno { return s.mix(o, either) }

// Cut takes out what another set does not have.
func (s *Set) Cut(o *Set) api.Errno { return s.mix(o, both) }

// Drop takes out what another set has.
func (s *Set) Drop(o *Set) api.Errno { return s.mix(o, firstOnly) }

// Union makes the union of two sets.
func Union(a, b *Set) (*Set, api.Errno) { return mixed(a, b, either) }

// Meet makes what two sets have both.
func Meet(a, b *Set) (*Set, api.Errno) { return mixed(a, b, both) }

// Minus makes what the first has and the second has not.
func Minus(a, b *Set) (*Set, api.Errno) { return mixed(a, b, firstOnly) }

// Not makes the set of the numbers below the bound that are not in it.
func Not(a *Set) *Set {
	if a == nil {
		return nil
	}
	s := a.Copy()
	for i, w := range s.words {
		s.words[i] = ^w
	}
	if spare := len(s.words)*wordBits - s.bound; spare > 0 {
		s.words[len(s.words)-1] &= ^uint64(0) >> spare
	}
	return s
}

// Subset tells whether the second has all numbers of the first.
func Subset(a, b *Set) bool { return alike(a, b) && !leaves(a, b, firstOnly) }

// Equal tells whether two sets have one bound and the same numbers.
func Equal(a, b *Set) bool {
	return a == b || alike(a, b) && slices.Equal(a.words, b.words)
}

// Meets tells whether two sets have a number in common.
func Meets(a, b *Set) bool { return alike(a, b) && leaves(a, b, both) }

// Compare orders sets: by the bound, by how many numbers, by the lists: -1, 0, 1.
func Compare(a, b *Set) int {
	if a == nil || b == nil {
		return cmp.Compare(rank(a), rank(b))
	}
	if c := cmp.Compare(a.bound, b.bound); c != 0 {
		return c
	}
	if c := cmp.Compare(a.Count(), b.Count()); c != 0 {
		return c
	}
	for i, w := range a.words {
		if differ := w ^ b.words[i]; differ != 0 {
			return ownerFirst(w, differ)
		}
	}
	return 0
}

// Key gives a text that tells the set.
func (s *Set) Key() string {
	size := keyBytes(s.bound)
	key := make([]byte, 0, keyHead+size)
	key = append(key, byte(s.bound>>byteBits), byte(s.bound))
	for i := range size {
		key = append(key, byte(s.words[i*byteBits/wordBits]>>(i*byteBits%wordBits)))
	}
	return string(key)
}

// FromKey gives the set of a key.
func FromKey(k string) (*Set, api.Errno) {
	if len(k) < keyHead {
		return nil, api.ErrKey
	}
	n := int(k[0])<<byteBits | int(k[1])
	size := keyBytes(n)
	s, err := New(n)
	if err != api.OK || len(k) != keyHead+size {
		return nil, api.ErrKey
	}
	if used := n % byteBits; used != 0 && k[len(k)-1]>>used != 0 {
		return nil, api.ErrKey
	}
	for i := range size {
		s.words[i*byteBits/wordBits] |= uint64(k[keyHead+i]) << (i * byteBits % wordBits)
	}
	return s, api.OK
}

func (s *Set) inRange(i int) bool { return i >= 0 && i < s.bound }

func bit(i int) uint64 { return 1 << (i % wordBits) }

func keyBytes(n int) int { return (n + byteBits - 1) / byteBits }

// walk hands the numbers of words on, rising, till yield has enough.
func walk(words []uint64, yield func(int) bool) {
	for k, w := range words {
		for ; w != 0; w &= w - 1 {
			if !yield(k*wordBits + bits.TrailingZeros64(w)) {
				return
			}
		}
	}
}

// alike tells whether two sets may be taken together; no set at all has no bound in common with any.
func alike(a, b *Set) bool { return a != nil && b != nil && a.bound == b.bound }

// rank puts what is no set ahead of all sets, so that Compare orders that too.
func rank(s *Set) int {
	if s == nil {
		return 0
	}
	return 1
}

// mix makes each word of the set anew out of itself and the other's.
func (s *Set) mix(o *Set, merge func(x, y uint64) uint64) api.Errno {
	if !alike(s, o) {
		return api.ErrRange
	}
	for i, w := range s.words {
		s.words[i] = merge(w, o.words[i])
	}
	return api.OK
}

func mixed(a, b *Set, merge func(x, y uint64) uint64) (*Set, api.Errno) {
	if !alike(a, b) {
		return nil, api.ErrRange
	}
	s := a.Copy()
	return s, s.mix(b, merge)
}

// leaves tells whether a number is left of what two sets' words make.
func leaves(a, b *Set, merge func(x, y uint64) uint64) bool {
	for i, w := range a.words {
		if merge(w, b.words[i]) != 0 {
			return true
		}
	}
	return false
}

func either(x, y uint64) uint64    { return x | y }
func both(x, y uint64) uint64      { return x & y }
func firstOnly(x, y uint64) uint64 { return x &^ y }

// ownerFirst orders two sets of as many numbers by the first word in which they differ: up to the least number
// that just one has their lists are the same, and the other's next number is greater.
func ownerFirst(word, differ uint64) int {
	if word&differ&-differ != 0 {
		return -1
	}
	return 1
}
