package nfa

import (
	"cmp"
	"slices"

	"wordset/api"
	"wordset/bitset"
)

// image takes an edge's two ends, near and far, from ends: Post and Pre differ in nothing else.
func image(a api.Auto, set []int, sym int, ends func(api.Edge) (near, far int)) ([]int, api.Errno) {
	if err := Valid(a); err != api.OK {
		return nil, err
	}
	if !allWithin(set, a.States) || !within(sym, a.Symbols) {
		return nil, api.ErrArg
	}
	from, reached := setOf(a, set), setOf(a, nil)
	for _, e := range a.Edges {
		if near, far := ends(e); e.Sym == sym && from.Has(near) {
			reached.Add(far)
		}
	}
	return reached.List(), api.OK
}

// walk holds an automaton's edges laid out for long words: those of one state and symbol are found without a look at the others.
type walk struct {
	auto  api.Auto // in order
	first []int    // where the edges of each state begin
}

func newWalk(a api.Auto) walk {
	w := walk{auto: a, first: make([]int, a.States+1)}
	for _, e := range a.Edges {
		w.first[e.From+1]++
	}
	for p := range a.States {
		w.first[p+1] += w.first[p]
	}
	return w
}

// from gives the edges from a state by a symbol, rising by To.
func (w walk) from(p, sym int) []api.Edge {
	edges := w.auto.Edges[w.first[p]:w.first[p+1]]
	symOrder := func(e api.Edge, sym int) int { return cmp.Compare(e.Sym, sym) }
	begin, _ := slices.BinarySearchFunc(edges, sym, symOrder)
	end := begin
	for end < len(edges) && edges[end].Sym == sym {
		end++
	}
	return edges[begin:end]
}

// has tells whether there is an edge; it starts from a state, its end may be any number.
func (w walk) has(e api.Edge) bool {
	toOrder := func(e api.Edge, to int) int { return cmp.Compare(e.To, to) }
	_, found := slices.BinarySearchFunc(w.from(e.From, e.Sym), e.To, toOrder)
	return found
}

func (w walk) step(set *bitset.Set, sym int) *bitset.Set {
	reached := setOf(w.auto, nil)
	for p := range set.All() {
		for _, e := range w.from(p, sym) {
			reached.Add(e.To)
		}
	}
	return reached
}

func after(a api.Auto, word []int) *bitset.Set {
	w := newWalk(inOrder(a))
	set := setOf(a, a.Start)
	for _, sym := range word {
		set = w.step(set, sym)
	}
	return set
}
