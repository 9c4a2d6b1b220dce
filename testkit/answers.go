package testkit

import (
	"slices"
	"strconv"

	"wordset/api"
)

// Answers holds what several calls answer, one behind the other.
type Answers struct {
	Codes  []api.Errno
	Truths []bool
	Lists  [][]int
	Autos  []api.Auto
	Twos   [][][2]int
	Exprs  []api.Expr
	Texts  []string
	Places []int
	Dfas   []api.Dfa
	Groups [][][]int
	Counts []int
	Takens [][]api.Taken
	Certs  []api.Cert
	Rows   [][]string
}

// Code adds the answer of a call that tells an error alone.
func (x *Answers) Code(e api.Errno) { x.Codes = append(x.Codes, e) }

// List adds the answer of a call that gives a list.
func (x *Answers) List(l []int, e api.Errno) {
	x.Lists = append(x.Lists, l)
	x.Code(e)
}

// Truth adds the answer of a call that tells yes or no.
func (x *Answers) Truth(yes bool, e api.Errno) {
	x.Truths = append(x.Truths, yes)
	x.Code(e)
}

// Auto adds the answer of a call that gives an automaton.
func (x *Answers) Auto(a api.Auto, e api.Errno) {
	x.Autos = append(x.Autos, a)
	x.Code(e)
}

// Pairs adds the answer of a call that gives a list of pairs.
func (x *Answers) Pairs(l [][2]int, e api.Errno) {
	x.Twos = append(x.Twos, l)
	x.Code(e)
}

// Expr adds the answer of a call that gives an expression.
func (x *Answers) Expr(e api.Expr, err api.Errno) {
	x.Exprs = append(x.Exprs, e)
	x.Code(err)
}

// Text adds the answer of a call that gives a text.
func (x *Answers) Text(s string, e api.Errno) {
	x.Texts = append(x.Texts, s)
	x.Code(e)
}

// Read adds the answer of a call that reads an expression.
func (x *Answers) Read(e api.Expr, p api.Problem) {
	x.Expr(e, p.Code)
	x.Places = append(x.Places, p.At)
}

// Dfa adds the answer of a call that gives a complete automaton.
func (x *Answers) Dfa(d api.Dfa, e api.Errno) {
	x.Dfas = append(x.Dfas, d)
	x.Code(e)
}

// Group adds the answer of a call that gives a list of lists.
func (x *Answers) Group(l [][]int, e api.Errno) {
	x.Groups = append(x.Groups, l)
	x.Code(e)
}

// Count adds the answer of a call that gives a number.
func (x *Answers) Count(n int, e api.Errno) {
	x.Counts = append(x.Counts, n)
	x.Code(e)
}

// Taken adds the answer of a call that gives a list of pairs that were kept.
func (x *Answers) Taken(l []api.Taken, e api.Errno) {
	x.Takens = append(x.Takens, l)
	x.Code(e)
}

// Row adds the answer of a call that gives a list of texts.
func (x *Answers) Row(l []string, e api.Errno) {
	x.Rows = append(x.Rows, l)
	x.Code(e)
}

// Cert adds the answer of a call that gives a certificate.
func (x *Answers) Cert(c api.Cert, e api.Errno) {
	x.Certs = append(x.Certs, c)
	x.Code(e)
}

// Found adds the answer of a call that gives what a search found.
func (x *Answers) Found(f api.Found, e api.Errno) {
	x.Truths = append(x.Truths, f.Yes, f.Has)
	x.Counts = append(x.Counts, f.Side, f.Pairs)
	x.List(f.Word, e)
}

// Same compares answers; empty lists may be nil.
func (x Answers) Same(y Answers) bool {
	return slices.Equal(x.Codes, y.Codes) && slices.Equal(x.Truths, y.Truths) &&
		slices.EqualFunc(x.Lists, y.Lists, slices.Equal[[]int]) && slices.EqualFunc(x.Autos, y.Autos, SameAuto) &&
		slices.EqualFunc(x.Twos, y.Twos, slices.Equal[[][2]int]) && slices.EqualFunc(x.Exprs, y.Exprs, SameExpr) &&
		slices.Equal(x.Texts, y.Texts) && slices.Equal(x.Places, y.Places) &&
		slices.EqualFunc(x.Dfas, y.Dfas, SameDfa) && slices.EqualFunc(x.Groups, y.Groups, SameGroup) && slices.Equal(x.Counts, y.Counts) &&
		slices.EqualFunc(x.Takens, y.Takens, SameTaken) && slices.EqualFunc(x.Certs, y.Certs, SameCert) &&
		slices.EqualFunc(x.Rows, y.Rows, slices.Equal[[]string])
}

// SameGroup compares lists of lists; empty lists may be nil.
func SameGroup(x, y [][]int) bool { return slices.EqualFunc(x, y, slices.Equal[[]int]) }

// SameTaken compares pairs that were kept; empty sets may be nil.
func SameTaken(x, y []api.Taken) bool {
	return slices.EqualFunc(x, y, func(v, w api.Taken) bool {
		return v.State == w.State && slices.Equal(v.Set, w.Set) && v.Link == w.Link
	})
}

// SameCert compares certificates; empty lists may be nil.
func SameCert(c, d api.Cert) bool {
	return slices.EqualFunc(c.Pairs, d.Pairs, func(v, w api.Pair) bool { return v.State == w.State && slices.Equal(v.Set, w.Set) })
}

// Nothing tells whether all answers but the codes, and the places at which texts are wrong, are zero values.
func (x Answers) Nothing() bool {
	for _, l := range x.Lists {
		if l != nil {
			return false
		}
	}
	for _, a := range x.Autos {
		if !NoAuto(a) {
			return false
		}
	}
	for _, l := range x.Twos {
		if l != nil {
			return false
		}
	}
	for _, e := range x.Exprs {
		if e.Nodes != nil {
			return false
		}
	}
	for _, d := range x.Dfas {
		if !NoDfa(d) {
			return false
		}
	}
	for _, l := range x.Groups {
		if l != nil {
			return false
		}
	}
	for _, l := range x.Takens {
		if l != nil {
			return false
		}
	}
	for _, c := range x.Certs {
		if c.Pairs != nil {
			return false
		}
	}
	for _, l := range x.Rows {
		if l != nil {
			return false
		}
	}
	for _, n := range x.Counts {
		if n != 0 {
			return false
		}
	}
	return !slices.Contains(x.Truths, true) && !slices.ContainsFunc(x.Texts, func(s string) bool { return s != "" })
}

func (x Answers) clone() Answers {
	y := Answers{Codes: slices.Clone(x.Codes), Truths: slices.Clone(x.Truths), Texts: slices.Clone(x.Texts), Places: slices.Clone(x.Places), Counts: slices.Clone(x.Counts)}
	for _, l := range x.Lists {
		y.Lists = append(y.Lists, slices.Clone(l))
	}
	for _, a := range x.Autos {
		y.Autos = append(y.Autos, copyOf(a))
	}
	for _, l := range x.Twos {
		y.Twos = append(y.Twos, slices.Clone(l))
	}
	for _, e := range x.Exprs {
		y.Exprs = append(y.Exprs, api.Expr{Nodes: slices.Clone(e.Nodes)})
	}
	for _, d := range x.Dfas {
		y.Dfas = append(y.Dfas, copyOfDfa(d))
	}
	for _, g := range x.Groups {
		var copied [][]int
		for _, l := range g {
			copied = append(copied, slices.Clone(l))
		}
		y.Groups = append(y.Groups, copied)
	}
	for _, l := range x.Takens {
		var copied []api.Taken
		for _, v := range l {
			copied = append(copied, api.Taken{State: v.State, Set: slices.Clone(v.Set), Link: v.Link})
		}
		y.Takens = append(y.Takens, copied)
	}
	for _, c := range x.Certs {
		y.Certs = append(y.Certs, copyOfCert(c))
	}
	for _, l := range x.Rows {
		y.Rows = append(y.Rows, slices.Clone(l))
	}
	return y
}

func copyOfCert(c api.Cert) api.Cert {
	var copied api.Cert
	for _, v := range c.Pairs {
		copied.Pairs = append(copied.Pairs, api.Pair{State: v.State, Set: slices.Clone(v.Set)})
	}
	return copied
}

// apart writes over all lists and their spare room, each with an ink of its own, and tells whether each still holds its own.
func (x Answers) apart() bool {
	lists := slices.Clone(x.Lists)
	var edges [][]api.Edge
	for _, a := range x.Autos {
		lists = append(lists, a.Start, a.Final)
		edges = append(edges, a.Edges)
	}
	for _, d := range x.Dfas {
		lists = append(lists, d.Final, d.Next)
	}
	for _, g := range x.Groups {
		lists = append(lists, g...)
	}
	for _, l := range x.Takens {
		for _, v := range l {
			lists = append(lists, v.Set)
		}
	}
	var pairs [][]api.Pair
	for _, c := range x.Certs {
		for _, v := range c.Pairs {
			lists = append(lists, v.Set)
		}
		pairs = append(pairs, c.Pairs)
	}
	var nodes [][]api.ExprNode
	for _, e := range x.Exprs {
		nodes = append(nodes, e.Nodes)
	}
	return inked(lists, func(i int) int { return -9 - i }) && inked(edges, func(i int) api.Edge { return api.Edge{From: -9 - i} }) &&
		inked(x.Rows, func(i int) string { return "ink " + strconv.Itoa(i) }) && inked(x.Twos, func(i int) [2]int { return [2]int{-9 - i} }) && inked(nodes, func(i int) api.ExprNode { return api.ExprNode{Size: -9 - i} }) &&
		inkedBy(x.Groups, func(i int) []int { return []int{-9 - i} }, slices.Equal[[]int]) &&
		inkedBy(x.Takens, func(i int) api.Taken { return api.Taken{State: -9 - i} }, func(v, w api.Taken) bool { return v.State == w.State }) &&
		inkedBy(pairs, func(i int) api.Pair { return api.Pair{State: -9 - i} }, func(v, w api.Pair) bool { return v.State == w.State })
}

func inked[T comparable](lists [][]T, ink func(i int) T) bool {
	return inkedBy(lists, ink, func(v, w T) bool { return v == w })
}

func inkedBy[T any](lists [][]T, ink func(i int) T, same func(v, w T) bool) bool {
	for i, l := range lists {
		Scribble(l, ink(i))
	}
	for i, l := range lists {
		for _, item := range l[:cap(l)] {
			if !same(item, ink(i)) {
				return false
			}
		}
	}
	return true
}

// Memory asks several times, writes over what was answered, and tells what shares memory that should not; "": nothing does. What unchanged looks at is what is handed in.
func Memory(ask func() Answers, unchanged func() bool) string {
	x, y := ask(), ask()
	if !unchanged() {
		return "what was handed in has changed"
	}
	want := x.clone()
	both := Answers{Lists: slices.Concat(x.Lists, y.Lists), Autos: slices.Concat(x.Autos, y.Autos), Twos: slices.Concat(x.Twos, y.Twos), Exprs: slices.Concat(x.Exprs, y.Exprs), Dfas: slices.Concat(x.Dfas, y.Dfas), Groups: slices.Concat(x.Groups, y.Groups), Takens: slices.Concat(x.Takens, y.Takens), Certs: slices.Concat(x.Certs, y.Certs), Rows: slices.Concat(x.Rows, y.Rows)}
	if !both.apart() {
		return "two lists that were answered share memory"
	}
	if !unchanged() {
		return "an answer shares memory with what was handed in"
	}
	if !ask().Same(want) {
		return "an answer shares memory with what is kept"
	}
	return ""
}
