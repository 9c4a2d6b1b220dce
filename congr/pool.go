package congr

import "wordset/bitset"

// pool holds sets of one bound that nobody needs for now: most pairs that are found are left out, and their sets with them.
type pool struct {
	bound int
	free  []*bitset.Set
}

// take gives an empty set.
func (p *pool) take() *bitset.Set {
	last := len(p.free) - 1
	if last < 0 {
		return setOf(p.bound, nil)
	}
	set := p.free[last]
	p.free = p.free[:last]
	set.Clear()
	return set
}

func (p *pool) giveBack(sets ...*bitset.Set) { p.free = append(p.free, sets...) }
