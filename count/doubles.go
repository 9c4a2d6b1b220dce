package count

import (
	"slices"

	"wordset/api"
	"wordset/bitset"
)

// pair is the last states of two lists of states that a word leads through, the lesser one first.
type pair struct {
	p, q   int
	parted bool // the lists differ; else they are one list
}

// doubles looks for a word with two paths. It goes through the pairs that words lead to in groups: those to which one word leads, and no lesser one. So the groups come in length order of these words.
type doubles struct {
	graph
	final  *bitset.Set
	met    []bool // by pair
	half   []bool // by what halfway keeps apart
	groups [][]pair
	links  []api.Link // by group
}

// newDoubles takes an automaton in order.
func newDoubles(a api.Auto) *doubles {
	g := newGraph(a)
	square := a.States * a.States
	return &doubles{graph: g, final: g.set(g.Final...), met: make([]bool, 2*square), half: make([]bool, square*a.Symbols)}
}

// least gives the least word in length order that has two paths; false: there is none.
func (d *doubles) least() ([]int, bool) {
	var starts []pair
	for _, p := range d.Start {
		for _, q := range d.Start {
			starts = d.meet(starts, pair{p, q, p != q})
		}
	}
	d.put(starts, api.Link{Parent: -1, Sym: -1})
	for at := 0; at < len(d.groups); at++ {
		if slices.ContainsFunc(d.groups[at], d.shows) {
			return d.wordTo(at), true
		}
		for sym := range d.Symbols {
			d.put(d.after(d.groups[at], sym), api.Link{Parent: at, Sym: sym})
		}
	}
	return nil, false
}

func (d *doubles) shows(x pair) bool { return x.parted && d.final.Has(x.p) && d.final.Has(x.q) }

func (d *doubles) put(group []pair, link api.Link) {
	if len(group) > 0 {
		d.groups = append(d.groups, group)
		d.links = append(d.links, link)
	}
}

// after gives the pairs to which a symbol leads from those of a group, but for those that were met already.
func (d *doubles) after(group []pair, sym int) []pair {
	var next []pair
	for _, x := range group {
		for _, e := range d.fromBy(x.p, sym) {
			if x.parted && d.halfway(e, x.q) {
				continue
			}
			for _, f := range d.fromBy(x.q, sym) {
				next = d.meet(next, pair{e.To, f.To, x.parted || e.To != f.To})
			}
		}
	}
	return next
}

// meet adds a pair to a list if it is new.
func (d *doubles) meet(list []pair, x pair) []pair {
	x.p, x.q = min(x.p, x.q), max(x.p, x.q)
	place := 2 * (x.p*d.States + x.q)
	if x.parted {
		place++
	}
	if d.met[place] {
		return list
	}
	d.met[place] = true
	return append(list, x)
}

// halfway tells whether the first of a pair has already gone along such an edge while the second still stood at q, and notes it: from there on all was met then. Without that, each two edges by one symbol would be looked at together.
func (d *doubles) halfway(e api.Edge, q int) bool {
	place := (e.Sym*d.States+e.To)*d.States + q
	known := d.half[place]
	d.half[place] = true
	return known
}

func (d *doubles) wordTo(at int) []int {
	var word []int
	for ; d.links[at].Parent >= 0; at = d.links[at].Parent {
		word = append(word, d.links[at].Sym)
	}
	slices.Reverse(word)
	return word
}
