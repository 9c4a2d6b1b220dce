package witness

import (
	"slices"

	"wordset/api"
)

func within(i, bound int) bool { return i >= 0 && i < bound }

func allWithin(list []int, bound int) bool {
	for _, i := range list {
		if !within(i, bound) {
			return false
		}
	}
	return true
}

// areTree tells whether each link is a root or leads to one ahead of it: so from each of them there is a way up to a root.
func areTree(links []api.Link) bool {
	root := api.Link{Parent: -1, Sym: -1}
	for n, link := range links {
		if link != root && (!within(link.Parent, n) || link.Sym < 0) {
			return false
		}
	}
	return true
}

// wordTo takes links that are a tree, and the place of one.
func wordTo(links []api.Link, at int) []int {
	var w []int
	for links[at].Parent >= 0 {
		w = append(w, links[at].Sym)
		at = links[at].Parent
	}
	slices.Reverse(w)
	return w
}
