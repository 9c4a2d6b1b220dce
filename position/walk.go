package position

import (
	"slices"

	"wordset/api"
)

// part is what a node and all that is in it say of the marked expression's words.
type part struct {
	some        bool // there is a word
	empty       bool // the empty word is one
	first, last set
	positions   int // how many stand in it, be it in words or not
}

// walk goes through an expression's nodes from the last to the first, so that a node's kids are made when it comes.
type walk struct {
	pile   []part // what no node has taken yet; the first kid of the node that comes is on top
	at     int    // the position that was come to last: the positions of the node that comes begin there
	follow []set  // by position; those in a part that has no word are empty
}

// walked takes an expression that may be.
func walked(e api.Expr) (whole part, follow []set) {
	positions := len(symbolsOf(e))
	w := &walk{at: positions + 1, follow: make([]set, positions+1)}
	for p := range w.follow {
		w.follow[p] = upTo(positions)
	}
	makes := makers()
	for _, node := range slices.Backward(e.Nodes) {
		w.pile = append(w.pile, makes[node.Kind](w))
	}
	return w.take(), w.follow
}

// makers tells by a node's kind what makes a part of its kids.
func makers() map[api.ExprKind]func(*walk) part {
	return map[api.ExprKind]func(*walk) part{
		api.XNone:  (*walk).none,
		api.XEmpty: (*walk).empty,
		api.XSym:   (*walk).position,
		api.XCat:   (*walk).cat,
		api.XAlt:   (*walk).alt,
		api.XStar:  (*walk).star,
	}
}

func (w *walk) none() part { return part{} }

func (w *walk) empty() part { return part{some: true, empty: true} }

func (w *walk) position() part {
	w.at--
	alone := single(w.at)
	return part{some: true, first: alone, last: alone, positions: 1}
}

func (w *walk) cat() part {
	x, y := w.take(), w.take()
	made := part{positions: x.positions + y.positions}
	if !x.some || !y.some {
		w.forget(made.positions)
		return made
	}
	w.link(x.last, y.first)
	made.some, made.empty = true, x.empty && y.empty
	made.first, made.last = x.first, y.last
	if x.empty {
		made.first = union(x.first, y.first)
	}
	if y.empty {
		made.last = union(x.last, y.last)
	}
	return made
}

func (w *walk) alt() part {
	x, y := w.take(), w.take()
	return part{
		some:      x.some || y.some,
		empty:     x.empty || y.empty,
		first:     union(x.first, y.first),
		last:      union(x.last, y.last),
		positions: x.positions + y.positions,
	}
}

func (w *walk) star() part {
	made := w.take()
	w.link(made.last, made.first)
	made.some, made.empty = true, true
	return made
}

func (w *walk) take() part {
	top := w.pile[len(w.pile)-1]
	w.pile = w.pile[:len(w.pile)-1]
	return top
}

// link says that each position of one set can stand behind each of another.
func (w *walk) link(before, behind set) {
	for _, p := range before.list() {
		w.follow[p].join(behind)
	}
}

// forget takes back what was said of so many positions: the part that they are in has turned out to have no word.
func (w *walk) forget(positions int) {
	for _, behind := range w.follow[w.at : w.at+positions] {
		clear(behind)
	}
}
