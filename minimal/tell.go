package minimal

// pair is two states that a word must tell apart.
type pair [2]int

// tell gives the least word that just one of two states takes, if there is one. A pair is passed over if earlier pairs chain its two states together: a word that told them apart would do so for one of those pairs, and a lesser word leads there.
func tell(t table, first pair) ([]int, bool) {
	chained := newChains(len(t.final))
	w := walk[pair]{
		symbols: t.symbols,
		follow:  func(p pair, sym int) pair { return pair{t.follow(p[0], sym), t.follow(p[1], sym)} },
		meet: func(p pair, _ int) meeting {
			switch {
			case t.final[p[0]] != t.final[p[1]]:
				return last
			case chained.join(p[0], p[1]):
				return fresh
			}
			return known
		},
	}
	steps, told := w.run(first)
	if !told {
		return nil, false
	}
	return steps.word(len(steps) - 1), true
}

// chains are states that hang together: each has one above it, or is itself the top of its chain.
type chains struct{ above []int }

func newChains(states int) chains {
	c := chains{above: make([]int, states)}
	for s := range c.above {
		c.above[s] = s
	}
	return c
}

// top brings the states on its way nearer to the top, so that later ways are short.
func (c chains) top(s int) int {
	for c.above[s] != s {
		c.above[s] = c.above[c.above[s]]
		s = c.above[s]
	}
	return s
}

// join tells whether two states did not hang together yet; now they do.
func (c chains) join(p, q int) bool {
	p, q = c.top(p), c.top(q)
	c.above[p] = q
	return p != q
}
