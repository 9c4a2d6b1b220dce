// Package testkit is for tests alone: the document's words on automata said as plainly as can be, however slow, and automata and lists to try calls with.
package testkit

import (
	"slices"

	"wordset/api"
)

// SameAuto compares automata field by field; empty lists may be nil.
func SameAuto(a, b api.Auto) bool {
	return a.States == b.States && a.Symbols == b.Symbols && slices.Equal(a.Start, b.Start) && slices.Equal(a.Final, b.Final) && slices.Equal(a.Edges, b.Edges)
}

// NoAuto tells whether an automaton is the zero value.
func NoAuto(a api.Auto) bool {
	return a.States == 0 && a.Symbols == 0 && a.Start == nil && a.Final == nil && a.Edges == nil
}

// InOrder gives an automaton in order, by going through all that could be in it.
func InOrder(a api.Auto) api.Auto {
	b := api.Auto{States: a.States, Symbols: a.Symbols}
	for p := range a.States {
		if slices.Contains(a.Start, p) {
			b.Start = append(b.Start, p)
		}
		if slices.Contains(a.Final, p) {
			b.Final = append(b.Final, p)
		}
		for k := range a.Symbols {
			for q := range a.States {
				if e := (api.Edge{From: p, Sym: k, To: q}); slices.Contains(a.Edges, e) {
					b.Edges = append(b.Edges, e)
				}
			}
		}
	}
	return b
}

// Words gives all words over so many symbols, up to a length, in length order.
func Words(symbols, length int) [][]int {
	all := [][]int{{}}
	shorter := all
	for range length {
		var longer [][]int
		for _, w := range shorter {
			for k := range symbols {
				longer = append(longer, append(slices.Clone(w), k))
			}
		}
		all = append(all, longer...)
		shorter = longer
	}
	return all
}

// Tracks gives all lists of states that a word leads through, the first one of Start, the last one any; the lesser list first.
func Tracks(a api.Auto, word []int) [][]int {
	var lists [][]int
	for p := range a.States {
		if slices.Contains(a.Start, p) {
			lists = append(lists, []int{p})
		}
	}
	for _, k := range word {
		var longer [][]int
		for _, list := range lists {
			for q := range a.States {
				if slices.Contains(a.Edges, api.Edge{From: list[len(list)-1], Sym: k, To: q}) {
					longer = append(longer, append(slices.Clone(list), q))
				}
			}
		}
		lists = longer
	}
	return lists
}

// Paths gives all paths of a word, the least first.
func Paths(a api.Auto, word []int) [][]int {
	var paths [][]int
	for _, list := range Tracks(a, word) {
		if slices.Contains(a.Final, list[len(list)-1]) {
			paths = append(paths, list)
		}
	}
	return paths
}

// Takes tells whether a word has a path.
func Takes(a api.Auto, word []int) bool { return len(Paths(a, word)) > 0 }
