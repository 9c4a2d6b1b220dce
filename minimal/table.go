package minimal

import "wordset/api"

// table is a complete automaton that may be, without its start: or two of them, which together can be more than one may be.
type table struct {
	symbols int
	final   []bool // by state
	next    []int  // as in an api.Dfa
}

func tableOf(d api.Dfa) table {
	t := table{symbols: d.Symbols, final: make([]bool, d.States), next: d.Next}
	t.end(d.Final, 0)
	return t
}

// sideBySide gives two complete automata over as many symbols in one table: the states of e stand behind those of d.
func sideBySide(d, e api.Dfa) table {
	t := table{symbols: d.Symbols, final: make([]bool, d.States+e.States)}
	t.end(d.Final, 0)
	t.end(e.Final, d.States)
	t.next = append(t.next, d.Next...)
	for _, s := range e.Next {
		t.next = append(t.next, d.States+s)
	}
	return t
}

// end makes states final, which stand so many further behind.
func (t table) end(final []int, behind int) {
	for _, s := range final {
		t.final[behind+s] = true
	}
}

func (t table) follow(s, sym int) int { return t.next[s*t.symbols+sym] }

// within tells whether a number is from 0 to one below the bound.
func within(i, bound int) bool { return i >= 0 && i < bound }
