package minimal

import "slices"

// walk goes from one thing on to those that follow it, from what was met first first: so each is met by its least word.
type walk[T any] struct {
	symbols int
	follow  func(from T, sym int) T        // where a symbol leads
	meet    func(at T, number int) meeting // what is done with a thing that would have this number
}

// meeting is what meeting a thing comes to.
type meeting int

const (
	known meeting = iota // it has no number of its own, and nothing is looked for behind it
	fresh                // it has the number, and its turn will come
	last                 // it has the number, and the walk ends with it
)

// step is how a thing was met: from which number, by which symbol.
type step struct{ from, sym int }

// trail is the steps by number.
type trail []step

// run walks, and tells how what has a number was met, and whether the walk ended with a last one.
func (w walk[T]) run(first T) (trail, bool) {
	var met []T
	var steps trail
	ends := func(at T, by step) bool {
		how := w.meet(at, len(met))
		if how != known {
			met, steps = append(met, at), append(steps, by)
		}
		return how == last
	}
	if ends(first, step{from: -1}) {
		return steps, true
	}
	for n := 0; n < len(met); n++ {
		for sym := range w.symbols {
			if ends(w.follow(met[n], sym), step{from: n, sym: sym}) {
				return steps, true
			}
		}
	}
	return steps, false
}

// word gives the word by which the thing with a number was met.
func (t trail) word(n int) []int {
	var w []int
	for ; t[n].from >= 0; n = t[n].from {
		w = append(w, t[n].sym)
	}
	slices.Reverse(w)
	return w
}

// numbering is the states that are reached, in the length order of their least words.
type numbering struct {
	states []int // by number
	number []int // by state; of those that are not reached -1
	trail  trail
}

func number(states, symbols, first int, follow func(s, sym int) int) numbering {
	n := numbering{number: slices.Repeat([]int{-1}, states)}
	w := walk[int]{symbols: symbols, follow: follow, meet: func(s, number int) meeting {
		if n.number[s] >= 0 {
			return known
		}
		n.number[s] = number
		n.states = append(n.states, s)
		return fresh
	}}
	n.trail, _ = w.run(first)
	return n
}
