package simul

import "wordset/api"

// direction is how edges are gone along: all in which forward and backward differ.
type direction struct {
	tail, head func(e api.Edge) int   // where an edge is left, and where it leads
	marked     func(a api.Auto) []int // states above which none but such states may be
}

func ahead() direction {
	return direction{tail: from, head: to, marked: func(a api.Auto) []int { return a.Final }}
}

func behind() direction {
	return direction{tail: to, head: from, marked: func(a api.Auto) []int { return a.Start }}
}

func from(e api.Edge) int { return e.From }

func to(e api.Edge) int { return e.To }

// turned goes along the edges the other way; the same states are marked.
func (d direction) turned() direction {
	d.tail, d.head = d.head, d.tail
	return d
}

// place is a state and a symbol.
type place struct{ state, sym int }

// fan is all that stands behind a place: where the edges of its symbol lead from its state.
type fan struct {
	place
	heads []int
}

// fans is all fans of an automaton, to be had in two ways.
type fans struct {
	at map[place]*fan
	of [][]*fan // by state
}

// fansOf gives the fans of an automaton that is in order: so no head stands twice in one.
func fansOf(a api.Auto, d direction) fans {
	all := fans{at: map[place]*fan{}, of: make([][]*fan, a.States)}
	for _, e := range a.Edges {
		at := place{d.tail(e), e.Sym}
		f := all.at[at]
		if f == nil {
			f = &fan{place: at}
			all.at[at] = f
			all.of[at.state] = append(all.of[at.state], f)
		}
		f.heads = append(f.heads, d.head(e))
	}
	return all
}
