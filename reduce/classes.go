package reduce

import (
	"slices"

	"wordset/api"
	"wordset/nfa"
)

// merged makes states one that are below each other in the greatest simulation of one of both kinds.
func merged(a api.Auto, greatest func(api.Auto) (api.Matrix, api.Errno)) (api.Auto, []int, api.Errno) {
	below, err := relationOf(a, greatest)
	if err != api.OK {
		return api.Auto{}, nil, err
	}
	class, count := parted(a.States, func(p, q int) bool { return below[p][q] && below[q][p] })
	b, _ := nfa.Normal(renamed(a, class, count))
	return b, class, api.OK
}

// parted tells of each number below n which class it is in, and how many classes there are; they are numbered as their least numbers rise.
func parted(n int, alike func(p, q int) bool) ([]int, int) {
	class := make([]int, n)
	var least []int
	for p := range class {
		class[p] = slices.IndexFunc(least, func(q int) bool { return alike(p, q) })
		if class[p] < 0 {
			class[p] = len(least)
			least = append(least, p)
		}
	}
	return class, len(least)
}

// renamed gives an automaton by other names of its states; what two names were may stand twice in it.
func renamed(a api.Auto, name []int, states int) api.Auto {
	b := api.Auto{States: states, Symbols: a.Symbols}
	for _, p := range a.Start {
		b.Start = append(b.Start, name[p])
	}
	for _, p := range a.Final {
		b.Final = append(b.Final, name[p])
	}
	for _, e := range a.Edges {
		b.Edges = append(b.Edges, api.Edge{From: name[e.From], Sym: e.Sym, To: name[e.To]})
	}
	return b
}
