package minimal

import "slices"

// parting is the states parted into classes, so far by what was asked of them. That all states of a class lead into one class is asked symbol by symbol, and of a state only if its follower's class has another number since it was last asked. For that, of two parts of a class the smaller one gets a new number: so a state's number changes but few times.
type parting struct {
	table
	class   []int   // by state
	size    []int   // by class
	waiting [][]int // by symbol: the states to be asked
	waits   []bool  // by place in next
	into    [][]int // by state: the places in next that lead to it
}

// newParting has the final states in one class, all others in the other one, and all are still to be asked.
func newParting(t table) *parting {
	p := &parting{table: t, class: make([]int, len(t.final)), size: []int{0, 0}, waiting: make([][]int, t.symbols), waits: make([]bool, len(t.next)), into: make([][]int, len(t.final))}
	for s, final := range t.final {
		if final {
			p.class[s] = 1
		}
		p.size[p.class[s]]++
	}
	for place, s := range t.next {
		p.into[s] = append(p.into[s], place)
		p.wait(place)
	}
	return p
}

// wait puts the state of a place among those that are to be asked with its symbol.
func (p *parting) wait(place int) {
	if !p.waits[place] {
		p.waits[place] = true
		sym := place % p.symbols
		p.waiting[sym] = append(p.waiting[sym], place/p.symbols)
	}
}

// settle parts till nothing is left to be asked.
func (p *parting) settle() {
	for again := true; again; {
		again = false
		for sym := range p.symbols {
			again = again || len(p.waiting[sym]) > 0
			for _, group := range p.groups(sym) {
				p.part(group)
			}
		}
	}
}

// groups gives the states that wait for a symbol: in one group those that are in one class and lead into one class. All states of a class that do not wait lead into one class as well, into which none of those that wait leads.
func (p *parting) groups(sym int) [][]int {
	var groups [][]int
	place := map[[2]int]int{}
	for _, s := range p.waiting[sym] {
		p.waits[s*p.symbols+sym] = false
		key := [2]int{p.class[s], p.class[p.follow(s, sym)]}
		i, there := place[key]
		if !there {
			i = len(groups)
			place[key] = i
			groups = append(groups, nil)
		}
		groups[i] = append(groups[i], s)
	}
	p.waiting[sym] = nil
	return groups
}

// part parts a group from the rest of its class, if there is a rest.
func (p *parting) part(group []int) {
	class := p.class[group[0]]
	rest := p.size[class] - len(group)
	switch {
	case rest == 0:
		return
	case rest < len(group):
		group = p.others(class, group)
	}
	p.size[class] -= len(group)
	p.size = append(p.size, len(group))
	for _, s := range group {
		p.class[s] = len(p.size) - 1
		for _, place := range p.into[s] {
			p.wait(place)
		}
	}
}

// others gives the states of a class that are not in a group.
func (p *parting) others(class int, group []int) []int {
	var others []int
	in := make([]bool, len(p.class))
	for _, s := range group {
		in[s] = true
	}
	for s, c := range p.class {
		if c == class && !in[s] {
			others = append(others, s)
		}
	}
	return others
}

// leastAlike gives of each state the least one that takes the same words.
func leastAlike(t table) []int {
	p := newParting(t)
	p.settle()
	first := slices.Repeat([]int{-1}, len(p.size))
	alike := make([]int, len(p.class))
	for s, c := range p.class {
		if first[c] < 0 {
			first[c] = s
		}
		alike[s] = first[c]
	}
	return alike
}
