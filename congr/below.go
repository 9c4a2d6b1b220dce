package congr

import (
	"slices"

	"wordset/api"
	"wordset/bitset"
)

// below tells whether n may be a bound, and all numbers of rules and sets lie below it.
func below(n int, rules [][2][]int, sets ...[]int) bool {
	outside := func(i int) bool { return i < 0 || i >= n }
	if n < 0 || n > api.MaxUniverse {
		return false
	}
	for _, rule := range rules {
		if slices.ContainsFunc(rule[0], outside) || slices.ContainsFunc(rule[1], outside) {
			return false
		}
	}
	return !slices.ContainsFunc(sets, func(set []int) bool { return slices.ContainsFunc(set, outside) })
}

// setOf gives a set of numbers that are known to be below a bound that may be.
func setOf(n int, list []int) *bitset.Set {
	s, _ := bitset.Of(n, list)
	return s
}
