package simul

import (
	"slices"

	"wordset/api"
	"wordset/bitset"
)

// narrowing is a relation out of which pairs are taken till it is a simulation: the greatest one, as no pair goes that stands in any.
type narrowing struct {
	rows  []*bitset.Set // by state, those that are above it so far
	fans  fans          // of the edges turned: from where symbols lead to a state
	known []*bitset.Set // by state, the symbols that lead to it
	into  [][]link      // by state, the edges that lead to it
	left  [][]uint16    // by state, and by the number of a fan with several heads: how many of them are above the state, or were till a pair that waits
	bare  [][]int       // by symbol, the states whose fan has lost its last head above the state whose turn it is
	gone  []*bundle     // by state, its pairs that wait
	out   stack[*bundle]
}

// link is an edge as it is seen from its head.
type link struct {
	place      // where it is left
	number int // that of its fan; -1 if it has no others beside it
}

// bundle is pairs that were taken out, all with one first state. Those that come while it waits have their turn with it: so what leads to the state is gone through a few times, not once for each pair.
type bundle struct {
	low   int
	high  *bitset.Set
	waits bool
}

// newNarrowing has all pairs.
func newNarrowing(a api.Auto, d direction) *narrowing {
	n := &narrowing{fans: fansOf(a, d.turned()), into: make([][]link, a.States), bare: make([][]int, a.Symbols)}
	heads := n.connect(fansOf(a, d))
	for p := range a.States {
		n.rows = append(n.rows, allBelow(a.States))
		n.left = append(n.left, slices.Clone(heads))
		n.gone = append(n.gone, &bundle{low: p, high: setOf(a.States, nil)})
		n.known = append(n.known, setOf(a.Symbols, nil))
		for _, f := range n.fans.of[p] {
			n.known[p].Add(f.sym)
		}
	}
	return n
}

// connect makes the links, and tells how many heads the fans have that have several.
func (n *narrowing) connect(all fans) []uint16 {
	var heads []uint16
	for _, list := range all.of {
		for _, f := range list {
			number := -1
			if len(f.heads) > 1 {
				number = len(heads)
				heads = append(heads, uint16(len(f.heads)))
			}
			for _, t := range f.heads {
				n.into[t] = append(n.into[t], link{f.place, number})
			}
		}
	}
	return heads
}

// takeOut takes a pair out, if it is there.
func (n *narrowing) takeOut(low, high int) {
	if !n.rows[low].Has(high) {
		return
	}
	n.rows[low].Remove(high)
	b := n.gone[low]
	b.high.Add(high)
	if !b.waits {
		b.waits = true
		n.out.push(b)
	}
}

// settle takes out what may not stand without what was taken out, till nothing waits.
func (n *narrowing) settle() {
	for b, some := n.out.pop(); some; b, some = n.out.pop() {
		n.lose(b)
		b.high.Clear()
		b.waits = false
		n.follow(b.low)
	}
}

// lose finds, by symbol, the states of which no edge leads above a bundle's first state any more.
func (n *narrowing) lose(b *bundle) {
	known := n.known[b.low]
	for t := b.high.Next(0); t >= 0; t = b.high.Next(t + 1) {
		for _, l := range n.into[t] {
			if known.Has(l.sym) && n.last(b.low, l.number) {
				n.bare[l.sym] = append(n.bare[l.sym], l.state)
			}
		}
	}
}

// last counts that a fan has a head less above a state, and tells whether that was the last one.
func (n *narrowing) last(low, number int) bool {
	if number < 0 {
		return true
	}
	n.left[low][number]--
	return n.left[low][number] == 0
}

// follow takes out the pairs of states that lead to a state and of those that lost all that led above it.
func (n *narrowing) follow(low int) {
	for _, f := range n.fans.of[low] {
		for _, p := range f.heads {
			for _, q := range n.bare[f.sym] {
				n.takeOut(p, q)
			}
		}
		n.bare[f.sym] = n.bare[f.sym][:0]
	}
}
