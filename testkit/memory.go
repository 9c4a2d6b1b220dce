package testkit

import (
	"slices"

	"wordset/api"
)

// Roomy gives a list with spare room, and what looks whether list and room are as they were.
func Roomy[T comparable](list []T, room T) ([]T, func() bool) {
	whole := append(slices.Clone(list), room, room, room, room)
	before := slices.Clone(whole)
	return whole[:len(list):len(whole)], func() bool { return slices.Equal(whole, before) }
}

// RoomyAuto does so for an automaton's lists.
func RoomyAuto(a api.Auto) (api.Auto, func() bool) {
	start, same1 := Roomy(a.Start, 0)
	final, same2 := Roomy(a.Final, 0)
	edges, same3 := Roomy(a.Edges, api.Edge{})
	a.Start, a.Final, a.Edges = start, final, edges
	return a, func() bool { return same1() && same2() && same3() }
}

// RoomyFile does so for a content's lists.
func RoomyFile(f api.File) (api.File, func() bool) {
	ops, same1 := Roomy(f.Ops, api.Op{Name: "room"})
	states, same2 := Roomy(f.States, "room")
	final, same3 := Roomy(f.Final, "room")
	rules, same4 := Roomy(f.Rules, api.Rule{Op: "room"})
	f.Ops, f.States, f.Final, f.Rules = ops, states, final, rules
	return f, func() bool { return same1() && same2() && same3() && same4() }
}

// Scribble writes over a list and all its spare room.
func Scribble[T any](list []T, ink T) {
	list = list[:cap(list)]
	for i := range list {
		list[i] = ink
	}
}

// RoomyCert does so for a certificate's lists.
func RoomyCert(c api.Cert) (api.Cert, func() bool) {
	var whole api.Cert
	for _, x := range append(slices.Clone(c.Pairs), api.Pair{}, api.Pair{State: 1, Set: []int{1}}) {
		set, _ := Roomy(x.Set, 0)
		whole.Pairs = append(whole.Pairs, api.Pair{State: x.State, Set: set})
	}
	before := copyOfRoom(whole)
	roomy := api.Cert{Pairs: whole.Pairs[:len(c.Pairs):len(whole.Pairs)]}
	return roomy, func() bool { return SameCert(copyOfRoom(whole), before) }
}

// copyOfRoom gives a certificate whose sets have their spare room too.
func copyOfRoom(c api.Cert) api.Cert {
	var copied api.Cert
	for _, x := range c.Pairs {
		copied.Pairs = append(copied.Pairs, api.Pair{State: x.State, Set: slices.Clone(x.Set[:cap(x.Set)])})
	}
	return copied
}
