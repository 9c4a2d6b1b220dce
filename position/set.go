package position

import "math/bits"

const wordBits = 64

// set holds positions, a bit each. Sets need not be of one length: what a set has no room for is not in it.
type set []uint64

// upTo gives an empty set with room for the positions up to p.
func upTo(p int) set { return make(set, p/wordBits+1) }

func single(p int) set {
	s := upTo(p)
	s[p/wordBits] = 1 << (p % wordBits)
	return s
}

func union(x, y set) set {
	both := make(set, max(len(x), len(y)))
	both.join(x)
	both.join(y)
	return both
}

// join takes in a set that is not longer.
func (s set) join(o set) {
	for i, word := range o {
		s[i] |= word
	}
}

func (s set) count() int {
	n := 0
	for _, word := range s {
		n += bits.OnesCount64(word)
	}
	return n
}

// list gives the positions, rising.
func (s set) list() []int {
	list := make([]int, 0, s.count())
	for i, word := range s {
		for ; word != 0; word &= word - 1 {
			list = append(list, i*wordBits+bits.TrailingZeros64(word))
		}
	}
	return list
}
