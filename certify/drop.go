package certify

import (
	"iter"
	"slices"

	"wordset/api"
)

// dropper takes pairs out of a closed certificate one by one; it stays closed as long as they are spare ones.
type dropper struct {
	*checker
	into [][]int // by state: the places of the first automaton's edges to it
	// By place and number of a need: how many pairs are left that meet it. There may be very many needs, so the numbers are small ones; no certificate has more pairs than they can tell.
	left [][]uint16
	// By place of a pair: how many needs of other places only it meets. What it needs itself goes when it goes, and does not hold it.
	duties []int
	gone   []bool
}

func newDropper(k *checker) *dropper {
	d := &dropper{checker: k, into: make([][]int, k.first.states), left: make([][]uint16, len(k.pairs)+1)}
	d.duties, d.gone = make([]int, len(k.pairs)), make([]bool, len(k.pairs))
	for i, e := range k.first.edges {
		d.into[e.To] = append(d.into[e.To], i)
	}
	for at := range d.left {
		for n := range k.needs(at) {
			count := d.count(n)
			d.left[at] = append(d.left[at], count)
			if count == 1 {
				d.charge(n, 1)
			}
		}
	}
	return d
}

func (d *dropper) count(n need) uint16 {
	var count uint16
	for _, at := range d.of[n.state] {
		if d.lies(at, n.within) {
			count++
		}
	}
	return count
}

// charge makes a need that a single pair meets a duty of that one, or takes it off.
func (d *dropper) charge(n need, by int) {
	places := d.of[n.state]
	only := places[slices.IndexFunc(places, func(at int) bool { return d.lies(at, n.within) })]
	if only != n.place {
		d.duties[only] += by
	}
}

// lastSpare gives the place of the last pair without which what is left is closed; below 0: there is none.
func (d *dropper) lastSpare() int {
	for at, duties := range slices.Backward(d.duties) {
		if duties == 0 && !d.gone[at] {
			return at
		}
	}
	return -1
}

// takeOut takes a spare pair out. What it needed is nobody's duty any more, and what it met may be the duty of a single one now.
func (d *dropper) takeOut(at int) {
	for n := range d.needs(at) {
		if d.left[at][n.number] == 1 {
			d.charge(n, -1)
		}
	}
	d.gone[at] = true
	state := d.pairs[at].State
	d.of[state] = slices.DeleteFunc(d.of[state], func(other int) bool { return other == at })
	for n := range d.served(at) {
		d.left[n.place][n.number]--
		if d.left[n.place][n.number] == 1 {
			d.charge(n, 1)
		}
	}
}

// served goes through the needs, of all places that are left, which a pair meets.
func (d *dropper) served(at int) iter.Seq[need] {
	return func(yield func(need) bool) {
		state := d.pairs[at].State
		i, begins := slices.BinarySearch(d.first.starts, state)
		if begins && d.lies(at, d.start) && !yield(need{len(d.pairs), i, state, d.start}) {
			return
		}
		for _, i := range d.into[state] {
			e := d.first.edges[i]
			for _, place := range d.of[e.From] {
				n := need{place, i - d.first.begin[e.From], state, d.next(place)[e.Sym]}
				if d.lies(at, n.within) && !yield(n) {
					return
				}
			}
		}
	}
}

// rest gives the certificate of the pairs that are left.
func (d *dropper) rest() api.Cert {
	var c api.Cert
	for at, x := range d.pairs {
		if !d.gone[at] {
			c.Pairs = append(c.Pairs, api.Pair{State: x.State, Set: slices.Clone(x.Set)})
		}
	}
	return c
}
