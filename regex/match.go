package regex

import "wordset/api"

// place is where one can be in an expression between two symbols of a word: ahead of a node or behind it.
type place int

func ahead(n int) place  { return place(2 * n) }
func behind(n int) place { return place(2*n + 1) }

// reader is at all places of an expression to which the symbols read so far can lead.
type reader struct {
	nodes   tree
	parents []int
	step    int     // how many symbols were read, and one
	reached []int   // by place: the last step at which the reader was there
	fresh   []place // places of this step from which it has not gone on yet
	waiting []int   // nodes that wait for their symbol
}

// matches keeps to places, of which there are two a node: derivatives can grow beyond all limits.
func matches(nodes tree, word []int) bool {
	r := reader{nodes: nodes, parents: parentsOf(nodes), step: 1, reached: make([]int, 2*len(nodes))}
	r.reach(ahead(0))
	r.spread()
	var before []int
	for _, sym := range word {
		r.step++
		before, r.waiting = r.waiting, before[:0]
		for _, n := range before {
			if nodes[n].Sym == sym {
				r.reach(behind(n))
			}
		}
		r.spread()
	}
	return r.reached[behind(0)] == r.step
}

// parentsOf tells of each node of which one it is a kid; of the first, -1.
func parentsOf(nodes tree) []int {
	parents := make([]int, len(nodes))
	parents[0] = -1
	for n, head := range nodes {
		switch head.Kind {
		case api.XCat, api.XAlt:
			parents[n+1], parents[nodes.second(n)] = n, n
		case api.XStar:
			parents[n+1] = n
		}
	}
	return parents
}

func (r *reader) reach(p place) {
	if r.reached[p] < r.step {
		r.reached[p] = r.step
		r.fresh = append(r.fresh, p)
	}
}

// spread goes to all places to which no symbol leads on.
func (r *reader) spread() {
	for len(r.fresh) > 0 {
		p := r.fresh[len(r.fresh)-1]
		r.fresh = r.fresh[:len(r.fresh)-1]
		if n := int(p / 2); p == ahead(n) {
			r.enter(n)
		} else {
			r.leave(n)
		}
	}
}

func (r *reader) enter(n int) {
	switch r.nodes[n].Kind {
	case api.XEmpty:
		r.reach(behind(n))
	case api.XSym:
		r.waiting = append(r.waiting, n)
	case api.XCat:
		r.reach(ahead(n + 1))
	case api.XAlt:
		r.reach(ahead(n + 1))
		r.reach(ahead(r.nodes.second(n)))
	case api.XStar:
		r.reach(ahead(n + 1))
		r.reach(behind(n))
	}
}

func (r *reader) leave(n int) {
	parent := r.parents[n]
	if parent < 0 {
		return
	}
	switch kind := r.nodes[parent].Kind; {
	case kind == api.XStar:
		r.reach(ahead(parent))
	case kind == api.XCat && n == parent+1:
		r.reach(ahead(r.nodes.second(parent)))
	default:
		r.reach(behind(parent))
	}
}
