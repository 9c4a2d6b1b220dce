// Package testkit is for tests alone: the document's words on automata, complete ones, expressions and simulations said as plainly as can be, however slow, and automata, expressions and lists to try calls with.
package testkit

import (
	"cmp"
	"iter"
	"slices"

	"wordset/api"
)

// Auto gives an automaton; its edges are From, Sym, To one behind the other.
func Auto(states, symbols int, start, final []int, edges ...int) api.Auto {
	a := api.Auto{States: states, Symbols: symbols, Start: start, Final: final}
	for e := range slices.Chunk(edges, 3) {
		a.Edges = append(a.Edges, api.Edge{From: e[0], Sym: e[1], To: e[2]})
	}
	return a
}

// SameAuto compares automata field by field; empty lists may be nil.
func SameAuto(a, b api.Auto) bool {
	return a.States == b.States && a.Symbols == b.Symbols && slices.Equal(a.Start, b.Start) && slices.Equal(a.Final, b.Final) && slices.Equal(a.Edges, b.Edges)
}

// NoAuto tells whether an automaton is the zero value.
func NoAuto(a api.Auto) bool {
	return a.States == 0 && a.Symbols == 0 && a.Start == nil && a.Final == nil && a.Edges == nil
}

// InOrder gives an automaton in order, by going through all that could be in it.
func InOrder(a api.Auto) api.Auto {
	b := api.Auto{States: a.States, Symbols: a.Symbols}
	for p := range a.States {
		if slices.Contains(a.Start, p) {
			b.Start = append(b.Start, p)
		}
		if slices.Contains(a.Final, p) {
			b.Final = append(b.Final, p)
		}
		for k := range a.Symbols {
			for q := range a.States {
				if e := (api.Edge{From: p, Sym: k, To: q}); slices.Contains(a.Edges, e) {
					b.Edges = append(b.Edges, e)
				}
			}
		}
	}
	return b
}

// SideBySide is two automata in one: the second one's states stand behind the first one's.
func SideBySide(a, b api.Auto) api.Auto {
	u := copyOf(a)
	u.States += b.States
	for _, p := range b.Start {
		u.Start = append(u.Start, a.States+p)
	}
	for _, p := range b.Final {
		u.Final = append(u.Final, a.States+p)
	}
	for _, e := range b.Edges {
		u.Edges = append(u.Edges, api.Edge{From: a.States + e.From, Sym: e.Sym, To: a.States + e.To})
	}
	return u
}

// Words gives all words over so many symbols, up to a length, in length order.
func Words(symbols, length int) [][]int {
	all := [][]int{{}}
	shorter := all
	for range length {
		var longer [][]int
		for _, w := range shorter {
			for k := range symbols {
				longer = append(longer, append(slices.Clone(w), k))
			}
		}
		all = append(all, longer...)
		shorter = longer
	}
	return all
}

// LengthOrder is below 0 if the first word is the lesser one, above 0 if the second is, and 0 if they are one word.
func LengthOrder(v, w []int) int {
	return cmp.Or(cmp.Compare(len(v), len(w)), slices.Compare(v, w))
}

// Tracks gives all lists of states that a word leads through, the first one of Start, the last one any; the lesser list first.
func Tracks(a api.Auto, word []int) [][]int {
	var lists [][]int
	for p := range a.States {
		if slices.Contains(a.Start, p) {
			lists = append(lists, []int{p})
		}
	}
	for _, k := range word {
		var longer [][]int
		for _, list := range lists {
			for q := range a.States {
				if slices.Contains(a.Edges, api.Edge{From: list[len(list)-1], Sym: k, To: q}) {
					longer = append(longer, append(slices.Clone(list), q))
				}
			}
		}
		lists = longer
	}
	return lists
}

// Paths gives all paths of a word, the least first.
func Paths(a api.Auto, word []int) [][]int {
	var paths [][]int
	for _, list := range Tracks(a, word) {
		if slices.Contains(a.Final, list[len(list)-1]) {
			paths = append(paths, list)
		}
	}
	return paths
}

// Takes tells whether a word has a path.
func Takes(a api.Auto, word []int) bool { return len(Paths(a, word)) > 0 }

// Every goes through all automata in order with just so many states and symbols.
func Every(states, symbols int) iter.Seq[api.Auto] {
	numbers, edges := Upto(states), everyEdge(states, symbols)
	return func(yield func(api.Auto) bool) {
		for start := range 1 << states {
			for final := range 1 << states {
				for among := range 1 << len(edges) {
					a := api.Auto{States: states, Symbols: symbols, Start: chosen(numbers, start), Final: chosen(numbers, final), Edges: chosen(edges, among)}
					if !yield(a) {
						return
					}
				}
			}
		}
	}
}

// Upto gives the numbers from 0 to n - 1.
func Upto(n int) []int {
	list := make([]int, n)
	for i := range list {
		list[i] = i
	}
	return list
}

func everyEdge(states, symbols int) []api.Edge {
	var all []api.Edge
	for p := range states {
		for k := range symbols {
			for q := range states {
				all = append(all, api.Edge{From: p, Sym: k, To: q})
			}
		}
	}
	return all
}

// chosen gives those items of a list whose bits are set.
func chosen[T any](list []T, bits int) []T {
	var out []T
	for i, item := range list {
		if bits>>i&1 == 1 {
			out = append(out, item)
		}
	}
	return out
}
