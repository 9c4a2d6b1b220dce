package nfa

import (
	"wordset/api"
	"wordset/bitset"
)

// within tells whether a number is from 0 to one below the bound.
func within(i, bound int) bool { return i >= 0 && i < bound }

func allWithin(list []int, bound int) bool {
	for _, i := range list {
		if !within(i, bound) {
			return false
		}
	}
	return true
}

func checkWord(a api.Auto, word []int) api.Errno {
	if err := Valid(a); err != api.OK {
		return err
	}
	if !allWithin(word, a.Symbols) {
		return api.ErrWord
	}
	return api.OK
}

// setOf gives a list of states that may be as a set: the bound is never above bitset's, so nothing can go wrong.
func setOf(a api.Auto, list []int) *bitset.Set {
	s, _ := bitset.Of(a.States, list)
	return s
}
