package format

import (
	"cmp"
	"slices"

	"wordset/api"
	"wordset/names"
)

// series is a list that holds nothing twice, and at which place each of its items stands.
type series[T comparable] struct {
	list   []T
	places map[T]int
}

// add puts an item at the list's end, unless it is there, and tells its place.
func (s *series[T]) add(item T) int {
	if place, ok := s.places[item]; ok {
		return place
	}
	if s.places == nil {
		s.places = map[T]int{}
	}
	place := len(s.list)
	s.places[item] = place
	s.list = append(s.list, item)
	return place
}

func placesOf[T comparable](list []T) map[T]int {
	places := make(map[T]int, len(list))
	for i, item := range list {
		places[item] = i
	}
	return places
}

func holdsTwice[T comparable](list []T) bool { return len(placesOf(list)) < len(list) }

// rising gives the numbers of a list, each once.
func rising(list []int) []int {
	sorted := slices.Clone(list)
	slices.Sort(sorted)
	return slices.Compact(sorted)
}

func named(numbers []int, all []string) []string {
	list := make([]string, len(numbers))
	for i, n := range numbers {
		list[i] = all[n]
	}
	return list
}

// namesMayBe looks at what is declared; what is used must have been declared.
func namesMayBe(f api.File) bool {
	for _, op := range f.Ops {
		if !names.Valid(op.Name) || op.Arity < 0 || op.Arity > 1 {
			return false
		}
	}
	for _, name := range f.States {
		if !names.Valid(name) {
			return false
		}
	}
	return names.Valid(f.Title)
}

// finalMayBe asks for places that rise: so none stands twice.
func finalMayBe(f api.File) bool {
	places := placesOf(f.States)
	last := -1
	for _, name := range f.Final {
		place, ok := places[name]
		if !ok || place <= last {
			return false
		}
		last = place
	}
	return true
}

func rulesMayBe(f api.File) bool {
	ops, states := placesOf(f.Ops), placesOf(f.States)
	for _, r := range f.Rules {
		_, hasOp := ops[opOf(r)]
		_, hasFrom := states[r.From]
		_, hasTo := states[r.To]
		if !hasOp || !hasTo || r.From != "" && !hasFrom {
			return false
		}
	}
	return true
}

// opOf tells the op that a rule uses.
func opOf(r api.Rule) api.Op {
	if r.From == "" {
		return api.Op{Name: r.Op}
	}
	return api.Op{Name: r.Op, Arity: 1}
}

func symbolsOf(ops []api.Op) []string {
	var symbols []string
	for _, op := range ops {
		if op.Arity == 1 {
			symbols = append(symbols, op.Name)
		}
	}
	return symbols
}

func opsOf(symbols []string) []api.Op {
	ops := []api.Op{{Name: startOp}}
	for _, name := range symbols {
		ops = append(ops, api.Op{Name: name, Arity: 1})
	}
	return ops
}

// countEdges counts the rules that are edges. In a content that may be no two of them are one edge.
func countEdges(rules []api.Rule) int {
	n := 0
	for _, r := range rules {
		if r.From != "" {
			n++
		}
	}
	return n
}

func autoOf(f api.File, symbols []string) api.Auto {
	states, numbers := placesOf(f.States), placesOf(symbols)
	a := api.Auto{States: len(f.States), Symbols: len(symbols)}
	for _, name := range f.Final {
		a.Final = append(a.Final, states[name])
	}
	for _, r := range f.Rules {
		if r.From == "" {
			a.Start = append(a.Start, states[r.To])
		} else {
			a.Edges = append(a.Edges, api.Edge{From: states[r.From], Sym: numbers[r.Op], To: states[r.To]})
		}
	}
	a.Start = rising(a.Start)
	slices.SortFunc(a.Edges, compareEdges)
	return a
}

func rulesOf(a api.Auto, states, symbols []string) []api.Rule {
	var rules []api.Rule
	for _, q := range rising(a.Start) {
		rules = append(rules, api.Rule{Op: startOp, To: states[q]})
	}
	edges := slices.Clone(a.Edges)
	slices.SortFunc(edges, compareEdges)
	for _, e := range slices.Compact(edges) {
		rules = append(rules, api.Rule{Op: symbols[e.Sym], From: states[e.From], To: states[e.To]})
	}
	return rules
}

func compareEdges(a, b api.Edge) int {
	return cmp.Or(cmp.Compare(a.From, b.From), cmp.Compare(a.Sym, b.Sym), cmp.Compare(a.To, b.To))
}

func autoMayBe(a api.Auto) bool {
	if a.States < 0 || a.States > api.MaxStates || a.Symbols < 0 || a.Symbols > api.MaxSymbols || len(a.Edges) > api.MaxEdges {
		return false
	}
	for _, e := range a.Edges {
		if !isBelow(e.From, a.States) || !isBelow(e.Sym, a.Symbols) || !isBelow(e.To, a.States) {
			return false
		}
	}
	return allBelow(a.Start, a.States) && allBelow(a.Final, a.States)
}

func allBelow(list []int, bound int) bool {
	for _, n := range list {
		if !isBelow(n, bound) {
			return false
		}
	}
	return true
}

func isBelow(n, bound int) bool { return 0 <= n && n < bound }
