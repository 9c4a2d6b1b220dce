package count

import (
	"math/big"

	"wordset/api"
)

// tally is how often each of some things was met, by the things' numbers.
type tally struct {
	times []big.Int
	met   []int // the things whose times are not 0
}

// add takes a number above 0.
func (t *tally) add(thing int, times *big.Int) {
	if more := thing + 1 - len(t.times); more > 0 {
		t.times = append(t.times, make([]big.Int, more)...)
	}
	sum := &t.times[thing]
	if sum.Sign() == 0 {
		t.met = append(t.met, thing)
	}
	sum.Add(sum, times)
}

// empty leaves the numbers their room: they are needed again at the next step but one.
func (t *tally) empty() {
	for _, thing := range t.met {
		t.times[thing].SetInt64(0)
	}
	t.met = t.met[:0]
}

// digits tells how often the wanted things were met in all.
func (t *tally) digits(wanted func(thing int) bool) string {
	var sum big.Int
	for _, thing := range t.met {
		if wanted(thing) {
			sum.Add(&sum, &t.times[thing])
		}
	}
	return sum.String()
}

// runs takes an automaton in order.
func runs(a api.Auto, word []int) string {
	g := newGraph(a)
	var now, next tally
	for _, p := range g.Start {
		now.add(p, big.NewInt(1))
	}
	for _, sym := range word {
		next.empty()
		for _, p := range now.met {
			for _, e := range g.fromBy(p, sym) {
				next.add(e.To, &now.times[p])
			}
		}
		now, next = next, now
	}
	return now.digits(g.set(g.Final...).Has)
}
