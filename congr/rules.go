package congr

import (
	"iter"

	"wordset/bitset"
)

// side is one of a rule's two sets. It gives its first number, from a place on, that a set lacks, and the number's place; -1: it has none from there on.
type side func(z *bitset.Set, from int) (number, place int)

// listed takes a list in any order, with doubles; its places are the list's.
func listed(list []int) side {
	return func(z *bitset.Set, from int) (int, int) {
		for i := from; i < len(list); i++ {
			if !z.Has(list[i]) {
				return list[i], i
			}
		}
		return -1, -1
	}
}

// laid takes a set; its places are the numbers themselves.
func laid(set *bitset.Set) side {
	return func(z *bitset.Set, from int) (int, int) {
		i := set.Next(from)
		for i >= 0 && z.Has(i) {
			i = set.Next(i + 1)
		}
		return i, i
	}
}

// sideOf takes a set that stays as it is. To go through a set of few numbers is slow if its bound is high; a list of them takes no more room than the set.
func sideOf(set *bitset.Set) side {
	if set.Count() <= set.Bound()/64 {
		return listed(set.List())
	}
	return laid(set)
}

// rules rewrite sets. Each side is filed under one of its numbers: a set that lacks this one lacks a part of the side, and needs no look at it.
type rules struct {
	pool  *pool
	sides []side  // two a rule, one behind the other; nil: the rule was taken out
	place []int   // by side: where it was looked at last
	filed [][]int // by number; behind the last number those that have none
}

func newRules(p *pool) *rules { return &rules{pool: p, filed: make([][]int, p.bound+1)} }

// rulesOf takes rules whose numbers are below n.
func rulesOf(n int, list [][2][]int) *rules {
	r := newRules(&pool{bound: n})
	for _, rule := range list {
		s := r.put(listed(rule[0]), listed(rule[1]))
		r.file(s)
		r.file(s + 1)
	}
	return r
}

// add takes two sets that stay as they are, and gives the number by which the rule can be taken out. A side that has all of the other gives no set anything, and is not filed.
func (r *rules) add(x, y *bitset.Set) int {
	s := r.put(sideOf(x), sideOf(y))
	if !bitset.Subset(y, x) {
		r.file(s)
	}
	if !bitset.Subset(x, y) {
		r.file(s + 1)
	}
	return s
}

// put gives the number of the first side.
func (r *rules) put(x, y side) int {
	r.sides = append(r.sides, x, y)
	r.place = append(r.place, 0, 0)
	return len(r.sides) - 2
}

// file files a side under its first number.
func (r *rules) file(s int) {
	nothing := r.pool.take()
	defer r.pool.giveBack(nothing)
	if !r.refiled(s, nothing) {
		r.filed[r.pool.bound] = append(r.filed[r.pool.bound], s)
	}
}

// takeOut leaves the sides filed; they are let go when they are next met.
func (r *rules) takeOut(rule int) { r.sides[rule], r.sides[rule+1] = nil, nil }

// related tells whether two sets have one normal form: then that of each has all of the other.
func (r *rules) related(x, y *bitset.Set) bool { return r.leads(x, y) && r.leads(y, x) }

// leads tells whether the normal form of one set has all of another.
func (r *rules) leads(from, to *bitset.Set) bool {
	z, lacks := r.pool.take(), r.pool.take()
	defer r.pool.giveBack(z, lacks)
	z.Join(from)
	lacks.Join(to)
	lacks.Drop(from)
	left := lacks.Count()
	if left == 0 {
		return true
	}
	for number := range r.rewrite(z) {
		if lacks.Has(number) {
			left--
		}
		if left == 0 {
			return true
		}
	}
	return false
}

// rewrite lets a set grow to its normal form, and goes through the numbers that it gets. It may be left early: then it has grown so far.
func (r *rules) rewrite(z *bitset.Set) iter.Seq[int] {
	return func(yield func(int) bool) {
		news := append(z.List(), r.pool.bound) // every set counts as having what those without a number are filed under
		for len(news) > 0 {
			met := news[len(news)-1]
			news = news[:len(news)-1]
			for s := range r.met(met, z) {
				for number := range r.missing(s^1, z) {
					z.Add(number)
					news = append(news, number)
					if !yield(number) {
						return
					}
				}
			}
		}
	}
}

// met goes through the sides filed under a number that a set has, those of which it has all other numbers too. The set may grow meanwhile. The others are filed under a number that it lacks from now on.
func (r *rules) met(number int, z *bitset.Set) iter.Seq[int] {
	return func(yield func(int) bool) {
		for i := 0; i < len(r.filed[number]); {
			s := r.filed[number][i]
			if r.sides[s] == nil || r.refiled(s, z) {
				r.unfile(number, i)
				continue
			}
			if !yield(s) {
				return
			}
			i++
		}
	}
}

// refiled files a side under a number that a set lacks, if there is one. It looks on from where it looked last, and so not at the same numbers over and over while a set grows.
func (r *rules) refiled(s int, z *bitset.Set) bool {
	number, place := r.sides[s](z, r.place[s])
	if number < 0 {
		number, place = r.sides[s](z, 0)
	}
	if number < 0 {
		return false
	}
	r.place[s] = place
	r.filed[number] = append(r.filed[number], s)
	return true
}

// unfile takes out what is filed under a number at a place; their order makes no difference.
func (r *rules) unfile(number, i int) {
	list := r.filed[number]
	last := len(list) - 1
	list[i] = list[last]
	r.filed[number] = list[:last]
}

// missing goes through a side's numbers that a set lacks; it may get them meanwhile.
func (r *rules) missing(s int, z *bitset.Set) iter.Seq[int] {
	return func(yield func(int) bool) {
		for number, place := r.sides[s](z, 0); number >= 0 && yield(number); {
			number, place = r.sides[s](z, place+1)
		}
	}
}
