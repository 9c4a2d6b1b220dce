package testkit

import (
	"iter"
	"slices"

	"wordset/api"
)

// Dfa gives a complete automaton.
func Dfa(states, symbols, start int, final []int, next ...int) api.Dfa {
	return api.Dfa{States: states, Symbols: symbols, Start: start, Final: final, Next: next}
}

// SameDfa compares complete automata field by field; empty lists may be nil.
func SameDfa(d, e api.Dfa) bool {
	return d.States == e.States && d.Symbols == e.Symbols && d.Start == e.Start && slices.Equal(d.Final, e.Final) && slices.Equal(d.Next, e.Next)
}

// NoDfa tells whether a complete automaton is the zero value.
func NoDfa(d api.Dfa) bool {
	return d.States == 0 && d.Symbols == 0 && d.Start == 0 && d.Final == nil && d.Next == nil
}

// Leads tells to which state a word leads in a complete automaton.
func Leads(d api.Dfa, word []int) int {
	s := d.Start
	for _, k := range word {
		s = d.Next[s*d.Symbols+k]
	}
	return s
}

// TakesDfa tells whether a word leads to a final state of a complete automaton.
func TakesDfa(d api.Dfa, word []int) bool { return slices.Contains(d.Final, Leads(d, word)) }

// EveryDfa goes through all complete automata with just so many states and symbols, their finals rising.
func EveryDfa(states, symbols int) iter.Seq[api.Dfa] {
	return func(yield func(api.Dfa) bool) {
		numbers, nexts := Upto(states), everyList(states, states*symbols)
		for start := range states {
			for final := range 1 << states {
				for _, next := range nexts {
					if !yield(Dfa(states, symbols, start, chosen(numbers, final), slices.Clone(next)...)) {
						return
					}
				}
			}
		}
	}
}

// Ring is a complete automaton of n states in a ring, the first one start and final; each symbol leads so many on.
func Ring(n int, by ...int) api.Dfa {
	d := api.Dfa{States: n, Symbols: len(by), Final: []int{0}}
	for s := range n {
		for _, on := range by {
			d.Next = append(d.Next, (s+on)%n)
		}
	}
	return d
}

// everyList gives all lists of just so many numbers below a bound.
func everyList(bound, length int) [][]int {
	all := Words(bound, length)
	return slices.DeleteFunc(all, func(list []int) bool { return len(list) < length })
}

// Dfa draws a complete automaton with at most so many states, and with so many symbols, its finals in no order and with doubles.
func (d Draw) Dfa(states, symbols int) api.Dfa {
	n := 1 + d(states)
	return Dfa(n, symbols, d(n), d.List(n, d(n+2)), d.List(n, n*symbols)...)
}

// OddDfa draws what may be a complete automaton and may be none.
func (d Draw) OddDfa() api.Dfa {
	e := d.Dfa(4, d(4))
	for range d(3) {
		switch d(5) {
		case 0:
			e.States = d.Odd()
		case 1:
			e.Symbols = d.Odd()
		case 2:
			e.Start = d.Odd()
		case 3:
			e.Final = d.OddList()
		case 4:
			e.Next = append(e.Next[:d(len(e.Next)+1)], d.OddList()...)
		}
	}
	return e
}

// SpoiltDfa gives complete automata that may not be, each for one thing alone, out of one that may be and has a symbol and a final state.
func SpoiltDfa(d api.Dfa) []api.Dfa {
	var bad []api.Dfa
	with := func(change func(b *api.Dfa, wrong int), wrong ...int) {
		for _, n := range wrong {
			b := copyOfDfa(d)
			change(&b, n)
			bad = append(bad, b)
		}
	}
	const least, most = -1 << 63, 1<<63 - 1
	with(func(b *api.Dfa, n int) { b.States = n }, least, -1, 0, api.MaxStates+1, most)
	with(func(b *api.Dfa, n int) { b.Symbols = n }, least, -1, api.MaxSymbols+1, most)
	with(func(b *api.Dfa, n int) { b.Start = n }, least, -1, d.States, most)
	with(func(b *api.Dfa, n int) { b.Final[len(b.Final)-1] = n }, least, -1, d.States, most)
	with(func(b *api.Dfa, n int) { b.Next[len(b.Next)-1] = n }, least, -1, d.States, most)
	with(func(b *api.Dfa, n int) { b.Next[0] = n }, least, -1, d.States, most)
	with(func(b *api.Dfa, n int) { b.Next = b.Next[:len(b.Next)-n] }, 1, d.Symbols, len(d.Next))
	with(func(b *api.Dfa, n int) { b.Next = append(b.Next, make([]int, n)...) }, 1, d.Symbols)
	return bad
}

// RoomyDfa gives a complete automaton whose lists have spare room, and what looks whether it is as it was.
func RoomyDfa(d api.Dfa) (api.Dfa, func() bool) {
	final, same1 := Roomy(d.Final, 0)
	next, same2 := Roomy(d.Next, 0)
	d.Final, d.Next = final, next
	return d, func() bool { return same1() && same2() }
}

func copyOfDfa(d api.Dfa) api.Dfa {
	d.Final, d.Next = slices.Clone(d.Final), slices.Clone(d.Next)
	return d
}
