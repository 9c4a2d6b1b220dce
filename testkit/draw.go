package testkit

import "wordset/api"

// Draw gives one of the numbers from 0 to n - 1.
type Draw func(n int) int

// Auto draws an automaton with at most so many states and symbols, its lists in no order and with doubles.
func (d Draw) Auto(states, symbols int) api.Auto {
	a := api.Auto{States: d(states + 1), Symbols: d(symbols + 1)}
	if a.States == 0 {
		return a
	}
	a.Start = d.List(a.States, d(4))
	a.Final = d.List(a.States, d(4))
	for range d(3*a.States+1) * min(a.Symbols, 1) {
		a.Edges = append(a.Edges, api.Edge{From: d(a.States), Sym: d(a.Symbols), To: d(a.States)})
	}
	return a
}

// List draws a list of so many numbers below a bound; it is empty if there are none.
func (d Draw) List(bound, length int) []int {
	var list []int
	for range length * min(bound, 1) {
		list = append(list, d(bound))
	}
	return list
}

// Shuffled gives an automaton with the same states, starts, ends and edges, its lists in another order and with doubles.
func (d Draw) Shuffled(a api.Auto) api.Auto {
	return api.Auto{States: a.States, Symbols: a.Symbols, Start: shuffled(d, a.Start), Final: shuffled(d, a.Final), Edges: shuffled(d, a.Edges)}
}

func shuffled[T any](d Draw, list []T) []T {
	var out []T
	for i := range list {
		out = append(out, list[i])
		if d(4) == 0 {
			out = append(out, list[d(len(list))])
		}
	}
	for i := range out {
		k := i + d(len(out)-i)
		out[i], out[k] = out[k], out[i]
	}
	return out
}

// Odd draws a number, mostly small, sometimes at a limit or out of all ranges.
func (d Draw) Odd() int {
	if d(4) > 0 {
		return d(6) - 1
	}
	odd := [...]int{-1 << 63, 1<<63 - 1, api.MaxStates, api.MaxStates + 1, api.MaxSymbols, api.MaxSymbols + 1, 1 << 32, -1 << 32}
	return odd[d(len(odd))]
}

// OddList draws a list of odd numbers.
func (d Draw) OddList() []int {
	var list []int
	for range d(4) {
		list = append(list, d.Odd())
	}
	return list
}

// OddAuto draws what may be an automaton and may be none.
func (d Draw) OddAuto() api.Auto {
	a := api.Auto{States: d.Odd(), Symbols: d.Odd(), Start: d.OddList(), Final: d.OddList()}
	for range d(4) {
		a.Edges = append(a.Edges, api.Edge{From: d.Odd(), Sym: d.Odd(), To: d.Odd()})
	}
	return a
}

// Spoilt gives automata that may not be, each for one number alone, out of one that may be and has a start, an end and an edge.
func Spoilt(a api.Auto) []api.Auto {
	var bad []api.Auto
	with := func(change func(b *api.Auto, wrong int), wrong ...int) {
		for _, n := range wrong {
			b := copyOf(a)
			change(&b, n)
			bad = append(bad, b)
		}
	}
	const least, most = -1 << 63, 1<<63 - 1
	with(func(b *api.Auto, n int) { b.States = n }, least, -1, api.MaxStates+1, most)
	with(func(b *api.Auto, n int) { b.Symbols = n }, least, -1, api.MaxSymbols+1, most)
	with(func(b *api.Auto, n int) { b.Start[len(b.Start)-1] = n }, least, -1, a.States, most)
	with(func(b *api.Auto, n int) { b.Final[len(b.Final)-1] = n }, least, -1, a.States, most)
	with(func(b *api.Auto, n int) { b.Edges[len(b.Edges)-1].From = n }, least, -1, a.States, most)
	with(func(b *api.Auto, n int) { b.Edges[len(b.Edges)-1].Sym = n }, least, -1, a.Symbols, most)
	with(func(b *api.Auto, n int) { b.Edges[len(b.Edges)-1].To = n }, least, -1, a.States, most)
	with(func(b *api.Auto, n int) {
		for len(b.Edges) < n {
			b.Edges = append(b.Edges, b.Edges[0])
		}
	}, api.MaxEdges+1)
	return bad
}

func copyOf(a api.Auto) api.Auto {
	a.Start = append([]int(nil), a.Start...)
	a.Final = append([]int(nil), a.Final...)
	a.Edges = append([]api.Edge(nil), a.Edges...)
	return a
}
