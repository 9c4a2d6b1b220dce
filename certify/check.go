package certify

import (
	"iter"
	"slices"

	"wordset/api"
	"wordset/nfa"
)

// checker looks at a certificate of two automata. The places of its pairs are numbered; the place behind the last one is that of the start, which needs pairs as they do.
type checker struct {
	first, second side
	start         set // of the second automaton
	pairs         []api.Pair
	sets          []set   // by place: that of the pair
	of            [][]int // by state: the places of its pairs, rising
	steps         [][]set // by place, once it was asked: what next gives
}

// need is what must be there for a place: a pair of a state all of whose set is within another one.
type need struct {
	place, number int // number: which one of the place's needs it is
	state         int
	within        set
}

// checked gives a checker of a certificate that is closed for both automata, else what is wrong.
func checked(a, b api.Auto, c api.Cert) (*checker, api.Errno) {
	a, errA := nfa.Normal(a)
	b, errB := nfa.Normal(b)
	switch {
	case errA != api.OK || errB != api.OK:
		return nil, api.ErrAuto
	case a.Symbols != b.Symbols:
		return nil, api.ErrSymbols
	case !isOver(c, a.States, b.States):
		return nil, api.ErrCert
	}
	k := newChecker(a, b, c.Pairs)
	if !k.closed() {
		return nil, api.ErrCert
	}
	return k, api.OK
}

// newChecker takes automata in order and pairs of their states.
func newChecker(a, b api.Auto, pairs []api.Pair) *checker {
	k := &checker{first: newSide(a), second: newSide(b), start: setOf(b.States, b.Start), pairs: pairs}
	k.of, k.steps = make([][]int, a.States), make([][]set, len(pairs))
	for at, x := range pairs {
		k.sets = append(k.sets, setOf(b.States, x.Set))
		k.of[x.State] = append(k.of[x.State], at)
	}
	return k
}

func (k *checker) closed() bool {
	at := 0
check:
	for ; at <= len(k.pairs); at++ {
		if k.bad(at) {
			break check
		}
		for n := range k.needs(at) {
			if !k.met(n) {
				break check
			}
		}
	}
	return at > len(k.pairs)
}

// bad tells of a pair whether its state is final, and none of its set is.
func (k *checker) bad(at int) bool {
	return at < len(k.pairs) && k.first.final.has(k.pairs[at].State) && !k.sets[at].meets(k.second.final)
}

// needs goes through what must be there for a place.
func (k *checker) needs(at int) iter.Seq[need] {
	return func(yield func(need) bool) {
		if at == len(k.pairs) {
			for i, p := range k.first.starts {
				if !yield(need{at, i, p, k.start}) {
					return
				}
			}
			return
		}
		next := k.next(at)
		for i, e := range k.first.from(k.pairs[at].State) {
			if !yield(need{at, i, e.To, next[e.Sym]}) {
				return
			}
		}
	}
}

// next gives, by symbol, where it leads in the second automaton from the set of a pair; nothing for a symbol that leads nowhere from the pair's state, for nobody asks.
func (k *checker) next(at int) []set {
	if k.steps[at] != nil {
		return k.steps[at]
	}
	next := make([]set, k.first.symbols)
	for _, e := range k.first.from(k.pairs[at].State) {
		if next[e.Sym] == nil {
			next[e.Sym] = emptySet(k.second.states)
		}
	}
	for _, s := range k.pairs[at].Set {
		for _, e := range k.second.from(s) {
			if next[e.Sym] != nil {
				next[e.Sym].add(e.To)
			}
		}
	}
	k.steps[at] = next
	return next
}

func (k *checker) met(n need) bool {
	return slices.ContainsFunc(k.of[n.state], func(at int) bool { return k.lies(at, n.within) })
}

// lies tells whether the set of a pair is within another one. Its least number alone tells of most sets that they are not.
func (k *checker) lies(at int, within set) bool {
	list := k.pairs[at].Set
	return len(list) == 0 || within.has(list[0]) && k.sets[at].within(within)
}
