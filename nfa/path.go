package nfa

import (
	"slices"

	"wordset/api"
	"wordset/bitset"
)

func isPath(a api.Auto, states []int, word []int) bool {
	if len(states) != len(word)+1 || !slices.Contains(a.Start, states[0]) || !slices.Contains(a.Final, states[len(word)]) {
		return false
	}
	w := newWalk(inOrder(a))
	for i, sym := range word {
		if !w.has(api.Edge{From: states[i], Sym: sym, To: states[i+1]}) {
			return false
		}
	}
	return true
}

// leastPath takes the least state at each place from which the rest of the word can still be read; nil: there is no path.
func leastPath(a api.Auto, word []int) []int {
	rests := newRests(a, word)
	starts := setOf(a, a.Start)
	starts.Cut(rests.at(0))
	p := starts.Next(0)
	if p < 0 {
		return nil
	}
	w := newWalk(inOrder(a))
	path := make([]int, 0, len(word)+1)
	path = append(path, p)
	for i, sym := range word {
		p = leastNext(w.from(p, sym), rests.at(i+1))
		path = append(path, p)
	}
	return path
}

// leastNext gives the least end of edges, which rise by To, that is in a set.
func leastNext(edges []api.Edge, set *bitset.Set) int {
	i := slices.IndexFunc(edges, func(e api.Edge) bool { return set.Has(e.To) })
	return edges[i].To
}

// rests tells from which states each rest of a word leads to a final state. The sets of all places of a long word would fill the memory: it keeps one of each block of places, and makes those of a block again from it.
type rests struct {
	back  walk // over the edges turned round
	word  []int
	width int           // places of a block: about as many as there are blocks
	last  []*bitset.Set // of each block, the set of its last place
	block int           // whose sets are in sets
	sets  []*bitset.Set
}

func newRests(a api.Auto, word []int) *rests {
	r := &rests{back: newWalk(turned(a)), word: word, width: 1}
	for r.width*r.width < len(word) {
		r.width++
	}
	r.last = make([]*bitset.Set, len(word)/r.width+1)
	set := setOf(a, a.Final)
	for block := len(r.last) - 1; block >= 0; block-- {
		r.last[block] = set
		r.load(block)
		if block > 0 {
			set = r.back.step(r.sets[0], word[block*r.width-1])
		}
	}
	return r
}

// at gives the set of the place ahead of the word's symbol i.
func (r *rests) at(i int) *bitset.Set {
	if block := i / r.width; block != r.block {
		r.load(block)
	}
	return r.sets[i%r.width]
}

// load makes the sets of a block, from that of its last place on backwards.
func (r *rests) load(block int) {
	begin := block * r.width
	end := min(begin+r.width-1, len(r.word))
	r.block = block
	r.sets = make([]*bitset.Set, end-begin+1)
	set := r.last[block]
	for i := end; i > begin; i-- {
		r.sets[i-begin] = set
		set = r.back.step(set, r.word[i-1])
	}
	r.sets[0] = set
}
