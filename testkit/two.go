package testkit

import (
	"slices"

	"wordset/api"
)

// Bits gives a list of numbers below 64 as the bits of a number.
func Bits(list []int) uint64 {
	var set uint64
	for _, p := range list {
		set |= 1 << p
	}
	return set
}

// PostBits gives the states to which a symbol leads from those of a set, both as bits.
func PostBits(a api.Auto, set uint64, sym int) uint64 {
	var next uint64
	for _, e := range a.Edges {
		if e.Sym == sym && set>>e.From&1 == 1 {
			next |= 1 << e.To
		}
	}
	return next
}

// Reads tells whether a word leads to a final state; it is for longer words than Takes, and for at most 64 states.
func Reads(a api.Auto, word []int) bool {
	set := Bits(a.Start)
	for _, k := range word {
		set = PostBits(a, set, k)
	}
	return set&Bits(a.Final) != 0
}

// Shortest tells how many symbols the shortest words have that show something: shown is told whether the first automaton takes a word, and whether the second does. -1: there is none. It goes through all sets that words lead to in both.
func Shortest(a, b api.Auto, shown func(first, second bool) bool) int {
	level := [][2]uint64{{Bits(a.Start), Bits(b.Start)}}
	seen := map[[2]uint64]int{level[0]: 0}
	for length := 0; len(level) > 0; length++ {
		var next [][2]uint64
		for _, x := range level {
			if shown(x[0]&Bits(a.Final) != 0, x[1]&Bits(b.Final) != 0) {
				return length
			}
			for k := range a.Symbols {
				y := [2]uint64{PostBits(a, x[0], k), PostBits(b, x[1], k)}
				if _, known := seen[y]; !known {
					seen[y] = length + 1
					next = append(next, y)
				}
			}
		}
		level = next
	}
	return -1
}

// SameFound compares what two searches found; an empty word may be nil.
func SameFound(f, g api.Found) bool {
	return f.Yes == g.Yes && f.Has == g.Has && slices.Equal(f.Word, g.Word) && f.Side == g.Side && f.Pairs == g.Pairs
}

// OneWay gives an automaton with the same words in which each symbol leads from each state to just one: its states are the sets that words lead to.
func OneWay(a api.Auto) api.Auto {
	sets := []uint64{Bits(a.Start)}
	b := api.Auto{Symbols: a.Symbols, Start: []int{0}}
	for p := 0; p < len(sets); p++ {
		if sets[p]&Bits(a.Final) != 0 {
			b.Final = append(b.Final, p)
		}
		for k := range a.Symbols {
			next := PostBits(a, sets[p], k)
			if !slices.Contains(sets, next) {
				sets = append(sets, next)
			}
			b.Edges = append(b.Edges, api.Edge{From: p, Sym: k, To: slices.Index(sets, next)})
		}
	}
	b.States = len(sets)
	return b
}

// Two draws two automata over as many symbols, which have nothing to do with each other.
func (d Draw) Two(states, symbols int) (api.Auto, api.Auto) {
	a, b := d.Kin(d(states+1), symbols), d.Kin(d(states+1), symbols)
	b.Symbols = max(a.Symbols, b.Symbols)
	a.Symbols = b.Symbols
	return a, b
}

// Renumbered gives an automaton by other numbers of its states.
func (d Draw) Renumbered(a api.Auto) api.Auto {
	to := Upto(a.States)
	for i := range to {
		k := i + d(len(to)-i)
		to[i], to[k] = to[k], to[i]
	}
	b := api.Auto{States: a.States, Symbols: a.Symbols}
	for _, p := range a.Start {
		b.Start = append(b.Start, to[p])
	}
	for _, p := range a.Final {
		b.Final = append(b.Final, to[p])
	}
	for _, e := range a.Edges {
		b.Edges = append(b.Edges, api.Edge{From: to[e.From], Sym: e.Sym, To: to[e.To]})
	}
	return b
}

// Related draws two automata that take the same words, or would, if nothing had been taken from the second at the end. Mostly the first goes one way: such a one is seldom simulated by one that goes several.
func (d Draw) Related(states, symbols int) (api.Auto, api.Auto) {
	b := d.Kin(1+d(states), symbols)
	b.Start = append(b.Start, d(b.States))
	b.Final = append(b.Final, d.List(b.States, d(2*b.States))...)
	a := b
	if d(3) > 0 {
		a = OneWay(b)
	}
	b = d.Renumbered(b)
	if d(3) == 0 && len(b.Edges) > 0 {
		b.Edges = b.Edges[1:]
	}
	if d(4) == 0 && len(b.Final) > 0 {
		b.Final = b.Final[1:]
	}
	return a, b
}

// Hidden draws two automata with so many states in which most states are final, and nearly all lead on by each symbol: a word that shows a no is seldom short, and a yes takes a search.
func (d Draw) Hidden(first, second int) (api.Auto, api.Auto) {
	a, b := d.onward(first, 4), d.onward(second, 2)
	if d(2) == 0 {
		a.Final = d.List(first, 1+d(first))
	}
	b.Final = b.Final[1+d(second/2):]
	return a, d.Renumbered(b)
}

// onward draws an automaton over two symbols that begins at its last state; all are final. Of so many edges one has another one beside it.
func (d Draw) onward(states, seldom int) api.Auto {
	a := api.Auto{States: states, Symbols: 2, Start: []int{states - 1}, Final: Upto(states)}
	for p := range states {
		for k := range 2 {
			for more := d(12) > 0; more; more = d(seldom) == 0 {
				a.Edges = append(a.Edges, api.Edge{From: p, Sym: k, To: d(states)})
			}
		}
	}
	return a
}

// Crowd has as many edges as it is told, no two alike, all by one symbol; all its states are starts and final.
func Crowd(states, edges int) api.Auto {
	a := api.Auto{States: states, Symbols: 1, Start: Upto(states), Final: Upto(states)}
	for i := range edges {
		a.Edges = append(a.Edges, api.Edge{From: i / states, To: i % states})
	}
	return a
}

// Chain leads from each state to the next one; it begins at the first and ends at the last.
func Chain(n int) api.Auto {
	a := api.Auto{States: n, Symbols: 1, Start: []int{0}, Final: []int{n - 1}}
	for p := range n - 1 {
		a.Edges = append(a.Edges, api.Edge{From: p, To: p + 1})
	}
	return a
}

// Circle leads round; it begins at 0.
func Circle(n int, final []int) api.Auto {
	a := api.Auto{States: n, Symbols: 1, Start: []int{0}, Final: final}
	for p := range n {
		a.Edges = append(a.Edges, api.Edge{From: p, To: (p + 1) % n})
	}
	return a
}

// Letter has n states and takes the words whose (n-1)-th symbol from the end is a 1.
func Letter(n int) api.Auto {
	a := Auto(n, 2, []int{0}, []int{n - 1}, 0, 0, 0, 0, 1, 0, 0, 1, 1)
	for p := 1; p < n-1; p++ {
		a.Edges = append(a.Edges, api.Edge{From: p, To: p + 1}, api.Edge{From: p, Sym: 1, To: p + 1})
	}
	return a
}
