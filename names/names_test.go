package names_test

import (
	"math"
	"math/rand/v2"
	"slices"
	"strconv"
	"strings"
	"testing"

	"wordset/api"
	"wordset/names"
)

const nameLetters = "ABCDEFGHIJKLMNOPQRSTUVWXYZabcdefghijklmnopqrstuvwxyz0123456789_'"

// isName is what P2.1 says, told in another way.
func isName(s string) bool {
	for _, c := range []byte(s) {
		if strings.IndexByte(nameLetters, c) < 0 {
			return false
		}
	}
	return len(s) > 0 && len(s) < 17
}

func letters(n int) string { return strings.Repeat("x", n) }

// mixed gives every list of at most n texts out of a pool.
func mixed(pool []string, n int) [][]string {
	out := [][]string{nil}
	for from := 0; n > 0; n-- {
		end := len(out)
		for _, list := range out[from:end] {
			for _, s := range pool {
				out = append(out, append(slices.Clone(list), s))
			}
		}
		from = end
	}
	return out
}

// roomy gives a list with spare room, and what looks whether list or room have been changed.
func roomy(list []string) ([]string, func() bool) {
	whole := append(slices.Clone(list), "spare", "room", "behind", "it")
	before := slices.Clone(whole)
	return whole[:len(list):len(whole)], func() bool { return slices.Equal(whole, before) }
}

func hasTwice(list []string) bool {
	for i, s := range list {
		if slices.Contains(list[:i], s) {
			return true
		}
	}
	return false
}

func hasWrong(list []string) bool {
	return slices.ContainsFunc(list, func(s string) bool { return !isName(s) })
}

func TestValidBytes(t *testing.T) {
	for c := range 256 {
		b := string([]byte{byte(c)})
		for _, s := range []string{b, b + "a", "a" + b, "a" + b + "a", letters(15) + b, b + letters(15)} {
			if got := names.Valid(s); got != isName(s) {
				t.Errorf("P2.1: Valid(%q) = %v", s, got)
			}
		}
	}
}

func TestValidLengths(t *testing.T) {
	for n := range 100 {
		for _, c := range []string{"a", "Z", "0", "_", "'", "-"} {
			s := strings.Repeat(c, n)
			if got := names.Valid(s); got != isName(s) {
				t.Errorf("P2.1: Valid(%q) = %v", s, got)
			}
		}
	}
	for s, want := range map[string]bool{
		"a": true, "q_1'": true, letters(16): true, "0": true,
		"": false, letters(17): false, "a b": false, "a:": false, "é": false, "ａ": false, "\xff": false,
		"a\x00": false, "a\n": false, "\ta": false, letters(65537): false,
	} {
		if got := names.Valid(s); got != want {
			t.Errorf("P2.1: Valid(%q) = %v", s, got)
		}
	}
}

func TestMergeExamples(t *testing.T) {
	for _, c := range []struct {
		a, b, all []string
		ofA, ofB  []int
		err       api.Errno
	}{
		{[]string{"a", "b"}, []string{"c", "a"}, []string{"a", "b", "c"}, []int{0, 1}, []int{2, 0}, api.OK},
		{nil, []string{"b", "a"}, []string{"b", "a"}, nil, []int{0, 1}, api.OK},
		{[]string{}, []string{"b", "a"}, []string{"b", "a"}, nil, []int{0, 1}, api.OK},
		{[]string{"a"}, nil, []string{"a"}, []int{0}, nil, api.OK},
		{nil, nil, nil, nil, nil, api.OK},
		{[]string{"a", "a"}, []string{"b"}, nil, nil, nil, api.ErrTwice},
		{[]string{"a"}, []string{"b", "b"}, nil, nil, nil, api.ErrTwice},
		{[]string{"a"}, []string{"a", "a"}, nil, nil, nil, api.ErrTwice},
		{[]string{"a", "a"}, []string{"-"}, nil, nil, nil, api.ErrName},
		{[]string{"-"}, []string{"a", "a"}, nil, nil, nil, api.ErrName},
		{[]string{"-", "-"}, nil, nil, nil, nil, api.ErrName},
		{[]string{"a"}, []string{""}, nil, nil, nil, api.ErrName},
		{[]string{letters(17)}, nil, nil, nil, nil, api.ErrName},
	} {
		all, ofA, ofB, err := names.Merge(c.a, c.b)
		if err != c.err || !slices.Equal(all, c.all) || !slices.Equal(ofA, c.ofA) || !slices.Equal(ofB, c.ofB) {
			t.Errorf("P2.2: Merge(%q, %q) = %q, %v, %v, %d", c.a, c.b, all, ofA, ofB, err)
		}
		if err != api.OK && (all != nil || ofA != nil || ofB != nil) {
			t.Errorf("P2.2: Merge(%q, %q): with an error the lists are no zero values", c.a, c.b)
		}
	}
}

// wantMerge is P2.2 and P2.8 for two lists, without looking at how the list is made.
func wantMerge(t *testing.T, a, b []string) {
	t.Helper()
	all, ofA, ofB, err := names.Merge(a, b)
	want := api.OK
	if hasTwice(a) || hasTwice(b) {
		want = api.ErrTwice
	}
	if hasWrong(a) || hasWrong(b) {
		want = api.ErrName
	}
	if err != want {
		t.Fatalf("P2.2: Merge(%q, %q): %d, want %d", a, b, err, want)
	}
	if err != api.OK {
		if all != nil || ofA != nil || ofB != nil {
			t.Fatalf("P2.2: Merge(%q, %q): lists beside an error", a, b)
		}
		return
	}
	wantAll := slices.Concat(a, slices.DeleteFunc(slices.Clone(b), func(s string) bool { return slices.Contains(a, s) }))
	if !slices.Equal(all, wantAll) {
		t.Fatalf("P2.2: Merge(%q, %q): %q", a, b, all)
	}
	if len(ofA) != len(a) || len(ofB) != len(b) {
		t.Fatalf("P2.2: Merge(%q, %q): maps %v, %v", a, b, ofA, ofB)
	}
	hit := make([]bool, len(all))
	both := slices.Concat(a, b)
	for i, place := range slices.Concat(ofA, ofB) {
		if both[i] != all[place] {
			t.Fatalf("P2.8: Merge(%q, %q) = %q, maps %v, %v", a, b, all, ofA, ofB)
		}
		hit[place] = true
	}
	for i := range ofA {
		if ofA[i] != i {
			t.Fatalf("P2.2: Merge(%q, %q): the first map is %v", a, b, ofA)
		}
	}
	if slices.Contains(hit, false) || hasTwice(all) {
		t.Fatalf("P2.8: Merge(%q, %q) = %q: a place of no name, or one name at two", a, b, all)
	}
}

func TestMergeAllSmall(t *testing.T) {
	lists := mixed([]string{"a", "b", "c", "-"}, 3)
	for _, a := range lists {
		for _, b := range lists {
			wantMerge(t, a, b)
		}
	}
}

// TestMergeGreat: there is no most.
func TestMergeGreat(t *testing.T) {
	a, _ := names.Numbered("a", 4096)
	b, _ := names.Numbered("b", 4096)
	wantMerge(t, a, b)
	wantMerge(t, slices.Concat(a, b[:100]), slices.Concat(b[50:], a[:7]))
	wantMerge(t, a, append(slices.Clone(b), a[4095], b[0]))
}

func TestMergeWithItself(t *testing.T) {
	a := []string{"q", "Q", "0", "q'", "_"}
	for _, b := range [][]string{a, a[:0], a[1:3], {"_", "q"}} {
		all, ofA, ofB, err := names.Merge(a, b)
		if err != api.OK || !slices.Equal(all, a) || !slices.Equal(ofA, []int{0, 1, 2, 3, 4}) {
			t.Errorf("P2.8: Merge(%q, %q) = %q, %v, %v, %d", a, b, all, ofA, ofB, err)
		}
		for i, place := range ofB {
			if a[place] != b[i] {
				t.Errorf("P2.8: Merge(%q, %q): second map %v", a, b, ofB)
			}
		}
	}
}

func TestNumbered(t *testing.T) {
	for _, c := range []struct {
		head string
		n    int
		want []string
		err  api.Errno
	}{
		{"q", 3, []string{"q0", "q1", "q2"}, api.OK},
		{"q", 0, nil, api.OK},
		{"", 2, []string{"0", "1"}, api.OK},
		{"-", 0, nil, api.OK},
		{letters(20), 0, nil, api.OK},
		{"-", 1, nil, api.ErrName},
		{"a ", 4096, nil, api.ErrName},
		{letters(16), 1, nil, api.ErrName},
		{letters(15), 1, []string{letters(15) + "0"}, api.OK},
		{letters(15), 11, nil, api.ErrName},
		{"q", -1, nil, api.ErrArg},
		{"-", -1, nil, api.ErrArg},
		{"-", 4097, nil, api.ErrArg},
		{"q", 4097, nil, api.ErrArg},
		{"q", math.MinInt, nil, api.ErrArg},
		{"q", math.MaxInt, nil, api.ErrArg},
	} {
		list, err := names.Numbered(c.head, c.n)
		if err != c.err || !slices.Equal(list, c.want) || err != api.OK && list != nil {
			t.Errorf("P2.3: Numbered(%q, %d) = %q, %d", c.head, c.n, list, err)
		}
	}
}

func TestNumberedDigits(t *testing.T) {
	for _, c := range []struct {
		head, most int
	}{{15, 10}, {14, 100}, {13, 1000}, {12, 4096}} {
		for _, n := range []int{c.most - 1, c.most, c.most + 1} {
			list, err := names.Numbered(letters(c.head), n)
			want := api.OK
			if n > 4096 {
				want = api.ErrArg
			} else if n > c.most {
				want = api.ErrName
			}
			if err != want || (err == api.OK) != (len(list) == n) {
				t.Fatalf("P2.3: Numbered(%d letters, %d): %d names, %d", c.head, n, len(list), err)
			}
			for i, s := range list {
				if s != letters(c.head)+strconv.Itoa(i) {
					t.Fatalf("P2.3: Numbered(%d letters, %d): %q at %d", c.head, n, s, i)
				}
			}
		}
	}
}

func TestFresh(t *testing.T) {
	ten, _ := names.Numbered(letters(15), 10)
	many, _ := names.Numbered("q", 4096)
	for _, c := range []struct {
		list []string
		head string
		want string
		err  api.Errno
	}{
		{[]string{"q0", "q1", "q3"}, "q", "q2", api.OK},
		{[]string{"q3", "q1", "q0", "q0"}, "q", "q2", api.OK},
		{nil, "q", "q0", api.OK},
		{nil, "", "0", api.OK},
		{[]string{"0", "1"}, "", "2", api.OK},
		{[]string{"q", "q1", "p0", "Q0", "q00", "q0 ", "-", ""}, "q", "q0", api.OK},
		{many, "q", "q4096", api.OK},
		{many, "q1", "q11000", api.OK}, // q10 to q19, q110 to q199, q1100 to q1999 stand there
		{slices.Concat(many[:7], many[8:]), "q", "q7", api.OK},
		{ten[:9], letters(15), letters(15) + "9", api.OK},
		{ten, letters(15), "", api.ErrName},
		{nil, letters(16), "", api.ErrName},
		{nil, "-", "", api.ErrName},
		{[]string{"-0"}, "-", "", api.ErrName},
		{[]string{"é0", "é1"}, "é", "", api.ErrName},
	} {
		s, err := names.Fresh(c.list, c.head)
		if err != c.err || s != c.want {
			t.Errorf("P2.4: Fresh(%d texts, %q) = %q, %d, want %q, %d", len(c.list), c.head, s, err, c.want, c.err)
		}
	}
}

func TestFreshAllSmall(t *testing.T) {
	for _, list := range mixed([]string{"q0", "q1", "q2", "-0", "q"}, 4) {
		want := 0
		for slices.Contains(list, "q"+strconv.Itoa(want)) {
			want++
		}
		if s, err := names.Fresh(list, "q"); err != api.OK || s != "q"+strconv.Itoa(want) {
			t.Fatalf("P2.4: Fresh(%q, q) = %q, %d", list, s, err)
		}
		if s, err := names.Fresh(list, "-"); err != api.ErrName || s != "" {
			t.Fatalf("P2.4: Fresh(%q, -) = %q, %d", list, s, err)
		}
	}
}

func TestRenameExamples(t *testing.T) {
	for _, c := range []struct {
		list, from, to, want []string
		err                  api.Errno
	}{
		{[]string{"a", "b"}, []string{"a"}, []string{"c"}, []string{"c", "b"}, api.OK},
		{[]string{"a", "b"}, []string{"a", "b"}, []string{"b", "a"}, []string{"b", "a"}, api.OK},
		{[]string{"a", "b"}, []string{"a", "b"}, []string{"b", "c"}, []string{"b", "c"}, api.OK},
		{[]string{"a", "b"}, []string{"a"}, []string{"b"}, nil, api.ErrTwice},
		{[]string{"a", "a"}, nil, nil, nil, api.ErrTwice},
		{[]string{"a", "a"}, []string{"a"}, []string{"c"}, nil, api.ErrTwice},
		{[]string{"a"}, []string{"a", "a"}, []string{"x", "y"}, []string{"x"}, api.OK},
		{[]string{"a"}, []string{"a", "a"}, []string{"x", "-"}, []string{"x"}, api.OK},
		{[]string{"a"}, []string{"a", "a"}, []string{"-", "x"}, nil, api.ErrName},
		{[]string{"a"}, []string{"a"}, nil, nil, api.ErrArg},
		{[]string{"a"}, nil, []string{"a"}, nil, api.ErrArg},
		{nil, []string{"a"}, nil, nil, api.ErrArg},
		{[]string{"-"}, []string{"a"}, nil, nil, api.ErrArg},
		{[]string{"a"}, []string{"a"}, []string{"-"}, nil, api.ErrName},
		{[]string{"-"}, []string{"-"}, []string{"a"}, []string{"a"}, api.OK},
		{[]string{"", "a b"}, []string{"a b", ""}, []string{"x", "y"}, []string{"y", "x"}, api.OK},
		{[]string{"-"}, nil, nil, nil, api.ErrName},
		{[]string{"a", "b", "-"}, []string{"a"}, []string{"b"}, nil, api.ErrName},
		{[]string{"a"}, []string{"b"}, []string{"-"}, []string{"a"}, api.OK},
		{nil, []string{"-"}, []string{""}, nil, api.OK},
		{nil, nil, nil, nil, api.OK},
		{[]string{"a"}, []string{"a"}, []string{letters(17)}, nil, api.ErrName},
	} {
		list, err := names.Rename(c.list, c.from, c.to)
		if err != c.err || !slices.Equal(list, c.want) || err != api.OK && list != nil {
			t.Errorf("P2.5: Rename(%q, %q, %q) = %q, %d", c.list, c.from, c.to, list, err)
		}
	}
}

func TestRenameAllSmall(t *testing.T) {
	lists := mixed([]string{"a", "b", "c", "-"}, 2)
	for _, list := range mixed([]string{"a", "b", "-"}, 3) {
		for _, from := range lists {
			for _, to := range lists {
				wantRename(t, list, from, to)
			}
		}
	}
}

func wantRename(t *testing.T, list, from, to []string) {
	t.Helper()
	want, code := slices.Clone(list), api.OK
	if len(from) != len(to) {
		want, code = nil, api.ErrArg
	}
	for i, s := range want {
		if at := slices.Index(from, s); at >= 0 {
			want[i] = to[at]
		}
	}
	if hasWrong(want) {
		want, code = nil, api.ErrName
	}
	if hasTwice(want) {
		want, code = nil, api.ErrTwice
	}
	got, err := names.Rename(list, from, to)
	if err != code || !slices.Equal(got, want) || err != api.OK && got != nil {
		t.Fatalf("P2.5: Rename(%q, %q, %q) = %q, %d, want %q, %d", list, from, to, got, err, want, code)
	}
}

// TestRenameBack: Rename undoes itself, if no name that was not renamed stands in to.
func TestRenameBack(t *testing.T) {
	pool := mixed([]string{"a", "b", "c", "d"}, 3)
	undone := 0
	for _, merged := range pool {
		all, _, _, err := names.Merge(merged, []string{"b", "e"})
		if err != api.OK {
			continue
		}
		for _, from := range pool {
			for _, to := range pool {
				there, err := names.Rename(all, from, to)
				stays := func(s string) bool { return !slices.Contains(from, s) && slices.Contains(to, s) }
				if err != api.OK || hasTwice(from) || hasTwice(to) || slices.ContainsFunc(all, stays) {
					continue
				}
				undone++
				if back, err := names.Rename(there, to, from); err != api.OK || !slices.Equal(back, all) {
					t.Fatalf("P2.8: Rename(%q, %q, %q) = %q, back %q, %d", all, from, to, there, back, err)
				}
			}
		}
	}
	if undone < 1000 {
		t.Errorf("P2.8: no more than %d renamings were undone", undone)
	}
}

func newTable(t *testing.T, most int) *names.Table {
	t.Helper()
	x, err := names.New(most)
	if x == nil || err != api.OK {
		t.Fatalf("P2.6: New(%d): %d", most, err)
	}
	return x
}

func TestTableExamples(t *testing.T) {
	x := newTable(t, 2)
	for _, c := range []struct {
		name string
		n    int
		err  api.Errno
	}{
		{"", 0, api.ErrName}, {"a", 0, api.OK}, {"b", 1, api.OK}, {"a", 0, api.OK}, {"c", 0, api.ErrFull},
		{"-", 0, api.ErrName}, {letters(17), 0, api.ErrName}, {"b", 1, api.OK}, {"A", 0, api.ErrFull},
	} {
		if n, err := x.Add(c.name); n != c.n || err != c.err {
			t.Errorf("P2.6: Add(%q) = %d, %d", c.name, n, err)
		}
	}
	wantTable(t, x, []string{"a", "b"})
	empty := newTable(t, 0)
	if n, err := empty.Add("a"); n != 0 || err != api.ErrFull {
		t.Errorf("P2.6: New(0): Add(a) = %d, %d", n, err)
	}
	if n, err := empty.Add("-"); n != 0 || err != api.ErrName {
		t.Errorf("P2.6: New(0): Add(-) = %d, %d", n, err)
	}
	wantTable(t, empty, nil)
	for _, most := range []int{-1, -2, math.MinInt} {
		if x, err := names.New(most); x != nil || err != api.ErrArg {
			t.Errorf("P2.6: New(%d): %v, %d", most, x, err)
		}
	}
}

// wantTable holds every way in which a table tells its names against a list.
func wantTable(t *testing.T, x *names.Table, want []string) {
	t.Helper()
	if x.Count() != len(want) {
		t.Fatalf("P2.6: Count() = %d, want %d", x.Count(), len(want))
	}
	if got := x.List(); !slices.Equal(got, want) {
		t.Fatalf("P2.6: List() = %q, want %q", got, want)
	}
	for n, name := range want {
		if got, err := x.Name(n); got != name || err != api.OK {
			t.Fatalf("P2.6: Name(%d) = %q, %d, want %q", n, got, err, name)
		}
		if got, err := x.Find(name); got != n || err != api.OK {
			t.Fatalf("P2.6: Find(%q) = %d, %d, want %d", name, got, err, n)
		}
	}
	for _, n := range []int{-1, len(want), len(want) + 1, math.MinInt, math.MaxInt} {
		if got, err := x.Name(n); got != "" || err != api.ErrRange {
			t.Fatalf("P2.6: Name(%d) of %d = %q, %d", n, len(want), got, err)
		}
	}
	for _, name := range []string{"c", "-", "", letters(17), "aa", "nobody"} {
		if slices.Contains(want, name) {
			continue
		}
		if n, err := x.Find(name); n != 0 || err != api.ErrUnknown {
			t.Fatalf("P2.6: Find(%q) = %d, %d", name, n, err)
		}
	}
}

func TestTableGreatMost(t *testing.T) {
	x := newTable(t, math.MaxInt)
	list, _ := names.Numbered("q", 4096)
	for i, name := range list {
		if n, err := x.Add(name); n != i || err != api.OK {
			t.Fatalf("P2.6: Add(%q) = %d, %d", name, n, err)
		}
	}
	wantTable(t, x, list)
}

// TestTableMoves: tables and clones of them, each beside a list that says what it holds.
func TestTableMoves(t *testing.T) {
	pool := []string{"a", "b", "c", "d", "e", "A", "a'", "_", "0", "-", "", "a b", letters(16), letters(17)}
	r := rand.New(rand.NewPCG(2, 6))
	for range 300 {
		most := r.IntN(10)
		tables := []*names.Table{newTable(t, most)}
		lists := [][]string{nil}
		for range 40 {
			i := r.IntN(len(tables))
			if r.IntN(8) == 0 {
				tables = append(tables, tables[i].Clone())
				lists = append(lists, slices.Clone(lists[i]))
				continue
			}
			name := pool[r.IntN(len(pool))]
			want, code := slices.Index(lists[i], name), api.OK
			switch {
			case !isName(name):
				want, code = 0, api.ErrName
			case want >= 0:
			case len(lists[i]) == most:
				want, code = 0, api.ErrFull
			default:
				want = len(lists[i])
				lists[i] = append(lists[i], name)
			}
			if n, err := tables[i].Add(name); n != want || err != code {
				t.Fatalf("P2.6: Add(%q) to %q of most %d = %d, %d, want %d, %d", name, lists[i], most, n, err, want, code)
			}
			for k := range tables {
				wantTable(t, tables[k], lists[k])
			}
		}
	}
}

// TestTableAgain: a table made anew out of List answers as the one that it was made of.
func TestTableAgain(t *testing.T) {
	x := newTable(t, 5)
	for _, name := range []string{"z", "y", "z", "-", "x", "y"} {
		x.Add(name)
	}
	y := newTable(t, 5)
	for i, name := range x.List() {
		if n, err := y.Add(name); n != i || err != api.OK {
			t.Errorf("P2.7: Add(%q) = %d, %d", name, n, err)
		}
	}
	for _, name := range []string{"z", "x", "w", "v", "u", "-"} {
		n, err := x.Add(name)
		if m, errY := y.Add(name); n != m || err != errY {
			t.Errorf("P2.7: Add(%q): %d, %d and %d, %d", name, n, err, m, errY)
		}
	}
	wantTable(t, x, []string{"z", "y", "x", "w", "v"})
	wantTable(t, y, []string{"z", "y", "x", "w", "v"})
}

func TestCloneKeepsMost(t *testing.T) {
	x := newTable(t, 2)
	x.Add("a")
	y := x.Clone()
	y.Add("b")
	x.Add("c")
	for _, table := range []*names.Table{x, y} {
		if n, err := table.Add("d"); n != 0 || err != api.ErrFull {
			t.Errorf("P2.6: Add to a full table = %d, %d", n, err)
		}
	}
	wantTable(t, x, []string{"a", "c"})
	wantTable(t, y, []string{"a", "b"})
	z := newTable(t, 1).Clone()
	if n, err := z.Add("a"); n != 0 || err != api.OK {
		t.Errorf("P2.6: Add to a clone of an empty table = %d, %d", n, err)
	}
}

// scribble writes over a list that was answered, its spare room too.
func scribble[T any](list []T, with T) {
	list = list[:cap(list)]
	for i := range list {
		list[i] = with
	}
}

func TestMergeNewMemory(t *testing.T) {
	for _, b := range [][]string{{"b", "c"}, {"a"}, nil} {
		a, aSame := roomy([]string{"a", "b"})
		b, bSame := roomy(b)
		all, ofA, ofB, _ := names.Merge(a, b)
		wantAll, wantA, wantB := slices.Clone(all), slices.Clone(ofA), slices.Clone(ofB)
		scribble(ofA, 77)
		if !slices.Equal(ofB, wantB) {
			t.Errorf("P2.9: Merge: its two maps share memory")
		}
		scribble(all, "changed")
		scribble(ofB, 77)
		if !aSame() || !bSame() {
			t.Errorf("P2.9: Merge changed what it was given, or shares it")
		}
		all, ofA, ofB, _ = names.Merge(a, b)
		if !slices.Equal(all, wantAll) || !slices.Equal(ofA, wantA) || !slices.Equal(ofB, wantB) {
			t.Errorf("P2.9: Merge answers another time %q, %v, %v", all, ofA, ofB)
		}
	}
}

func TestRenameNewMemory(t *testing.T) {
	for _, from := range [][]string{{"a", "b"}, {"x", "y"}} {
		list, listSame := roomy([]string{"a", "b"})
		from, fromSame := roomy(from)
		to, toSame := roomy([]string{"c", "d"})
		got, err := names.Rename(list, from, to)
		if err != api.OK {
			t.Fatalf("P2.5: Rename(%q, %q, %q): %d", list, from, to, err)
		}
		scribble(got, "changed")
		if !listSame() || !fromSame() || !toSame() {
			t.Errorf("P2.9: Rename changed what it was given, or shares it")
		}
	}
}

func TestListsNewMemory(t *testing.T) {
	list, same := roomy([]string{"q1", "q0"})
	names.Fresh(list, "q")
	if !same() {
		t.Errorf("P2.9: Fresh changed what it was given")
	}
	one, _ := names.Numbered("q", 3)
	scribble(one, "changed")
	if two, _ := names.Numbered("q", 3); !slices.Equal(two, []string{"q0", "q1", "q2"}) {
		t.Errorf("P2.9: Numbered answers another time %q", two)
	}
	x := newTable(t, 9)
	for _, name := range []string{"a", "b", "c"} {
		x.Add(name)
	}
	scribble(x.List(), "changed")
	x.Add("d")
	wantTable(t, x, []string{"a", "b", "c", "d"})
}
