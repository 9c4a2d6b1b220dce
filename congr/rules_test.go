package congr_test

import (
	"math/rand/v2"
	"slices"
	"testing"

	"wordset/api"
	"wordset/congr"
	"wordset/testkit"
)

func TestRuleExamples(t *testing.T) {
	two := [][2][]int{{{0}, {1}}, {{1, 2}, {3}}}
	wantClose(t, 4, two, []int{0}, []int{0, 1})
	wantClose(t, 4, two, []int{0, 2}, []int{0, 1, 2, 3})
	wantClose(t, 4, two, []int{3}, []int{0, 1, 2, 3})
	wantClose(t, 4, two, []int{2, 2}, []int{2})
	empty := [][2][]int{{nil, {1}}}
	wantClose(t, 2, empty, nil, []int{1})
	wantRelated(t, 2, empty, []int{0}, []int{0, 1}, true)
	wantRelated(t, 2, empty, []int{1, 1}, nil, true)
	wantRelated(t, 2, empty, []int{0}, nil, false)
	wantNoRules(t, 2, [][2][]int{{{0}, {2}}}, nil)
	wantNoRules(t, -1, nil, nil)
	wantNoRules(t, 1, nil, []int{1})
}

// least says what Close is: what all sets have that have all of the given one and hold with each rule's one side the other.
func least(n int, rules []rule, z uint64) uint64 {
	common := uint64(1)<<n - 1
	for w := range uint64(1) << n {
		holds := w&z == z
		for _, r := range rules {
			holds = holds && (r[0]&^w == 0) == (r[1]&^w == 0)
		}
		if holds {
			common &= w
		}
	}
	return common
}

// congruence says what Related is: the least relation that is reflexive, symmetric and transitive, has the rules, and lets both sides be joined with any third set.
func congruence(n int, rules []rule) [][]bool {
	size := uint64(1) << n
	table := make([][]bool, size)
	for x := range table {
		table[x] = make([]bool, size)
		table[x][x] = true
	}
	for _, r := range rules {
		table[r[0]][r[1]] = true
	}
	for changed := true; changed; {
		changed = false
		put := func(x, y uint64) {
			changed = changed || !table[x][y]
			table[x][y] = true
		}
		for x := range size {
			for y := range size {
				if !table[x][y] {
					continue
				}
				put(y, x)
				for z := range size {
					put(x|z, y|z)
					if table[y][z] {
						put(x, z)
					}
				}
			}
		}
	}
	return table
}

// holdAll holds Close of all sets below n, and Related of all two of them, against what they are.
func holdAll(t *testing.T, n int, rules []rule) (related, apart int) {
	t.Helper()
	lists, table := listsOf(rules), congruence(n, rules)
	for x := range uint64(1) << n {
		got, e := congr.Close(n, lists, listOf(x))
		if e != api.OK || !slices.Equal(got, listOf(least(n, rules, x))) {
			t.Fatalf("P16.5: Close of %d, %v, %v: %v, %d", n, lists, listOf(x), got, e)
		}
		for y := range uint64(1) << n {
			got, e := congr.Related(n, lists, listOf(x), listOf(y))
			if e != api.OK || got != table[x][y] {
				t.Fatalf("P16.5: Related of %d, %v, %v, %v: %v, %d", n, lists, listOf(x), listOf(y), got, e)
			}
			if got && x != y {
				related++
			} else if !got {
				apart++
			}
		}
	}
	return related, apart
}

// TestEveryRule: no rule, each one, and each two, over at most three numbers; some of them over three.
func TestEveryRule(t *testing.T) {
	for n := range 4 {
		size := uint64(1) << n
		holdAll(t, n, nil)
		for i := range size * size {
			first := rule{i / size, i % size}
			holdAll(t, n, []rule{first})
			for j := range size * size {
				if n < 3 || (i+j)%3 == 0 {
					holdAll(t, n, []rule{first, {j / size, j % size}})
				}
			}
		}
	}
}

// drawRules draws rules below n, mostly of few numbers, so that not all becomes one.
func drawRules(d testkit.Draw, n, count int) []rule {
	var rules []rule
	side := func() uint64 {
		if d(20) == 0 {
			return 0
		}
		return testkit.Bits(d.List(n, 1+d(3)))
	}
	for range count {
		rules = append(rules, rule{side(), side()})
	}
	return rules
}

func TestDrawnRules(t *testing.T) {
	d := testkit.Draw(rand.New(rand.NewPCG(16, 4)).IntN)
	var related, apart int
	for range 300 {
		n := 3 + d(3)
		r, a := holdAll(t, n, drawRules(d, n, d(6)))
		related, apart = related+r, apart+a
	}
	if related < 10000 || apart < 10000 {
		t.Errorf("held were %d and %d", related, apart)
	}
}

// mixed gives rules in another order, some with their sides changed over, their lists in any order and with doubles.
func mixed(d testkit.Draw, rules []rule) [][2][]int {
	var out [][2][]int
	for _, r := range rules {
		i := d(2)
		out = append(out, [2][]int{loose(d, listOf(r[i])), loose(d, listOf(r[1-i]))})
		if d(5) == 0 {
			out = append(out, out[d(len(out))])
		}
	}
	for i := range out {
		k := i + d(len(out)-i)
		out[i], out[k] = out[k], out[i]
	}
	return out
}

func loose(d testkit.Draw, list []int) []int {
	return d.Shuffled(api.Auto{Start: list}).Start
}

// TestManyRules: of more rules over more numbers: what comes of them does not hang on the rules' order and is alike with doubles; it is closed, and rises with the set and with the rules.
func TestManyRules(t *testing.T) {
	d := testkit.Draw(rand.New(rand.NewPCG(16, 5)).IntN)
	var partly int
	for range 3000 {
		n := 1 + d(64)
		rules := drawRules(d, n, d(1+n/2))
		x, y := testkit.Bits(d.List(n, d(6))), testkit.Bits(d.List(n, d(6)))
		if d(2) == 0 {
			y |= x
		}
		z, w := closed(rules, x), closed(rules, y)
		if z != x && z != w && z != 1<<n-1 {
			partly++
		}
		wantClose(t, n, mixed(d, rules), loose(d, listOf(x)), listOf(z))
		wantClose(t, n, mixed(d, rules), listOf(z), listOf(z))
		wantRelated(t, n, mixed(d, rules), loose(d, listOf(x)), listOf(y), z == w)
		wantRelated(t, n, mixed(d, rules), listOf(x), listOf(z), true)
		wantRelated(t, n, mixed(d, rules), listOf(x|y), listOf(z|w), true)
		fewer, e := congr.Close(n, listsOf(rules[:len(rules)/2]), listOf(x))
		if e != api.OK || testkit.Bits(fewer)&^z != 0 || x&^y == 0 && z&^w != 0 {
			t.Fatalf("P16.5: %d, %v: Close of %v does not rise with the rules and the set", n, listsOf(rules), listOf(x))
		}
		for _, r := range listsOf(rules) {
			wantRelated(t, n, mixed(d, rules), r[0], r[1], true)
		}
	}
	if partly < 500 {
		t.Errorf("held were %d that have come half way", partly)
	}
}
