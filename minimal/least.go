package minimal

import "wordset/api"

// least gives the least complete automaton of the same language. A class stands under its least state; which of its states a word leads to makes no difference to the class that comes next.
func least(d api.Dfa) api.Dfa {
	t := tableOf(d)
	alike := leastAlike(t)
	follow := func(s, sym int) int { return alike[t.follow(s, sym)] }
	n := number(d.States, d.Symbols, alike[d.Start], follow)
	m := api.Dfa{States: len(n.states), Symbols: d.Symbols}
	for i, s := range n.states {
		if t.final[s] {
			m.Final = append(m.Final, i)
		}
		for sym := range d.Symbols {
			m.Next = append(m.Next, n.number[follow(s, sym)])
		}
	}
	return m
}
