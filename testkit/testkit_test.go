package testkit_test

import (
	"fmt"
	"math/rand/v2"
	"reflect"
	"slices"
	"testing"

	"wordset/api"
	"wordset/testkit"
)

// The tests of all layers lean on these few answers: they are told here by hand.
func TestByHand(t *testing.T) {
	a := api.Auto{States: 2, Symbols: 2, Start: []int{1, 0, 1}, Final: []int{1}, Edges: []api.Edge{{From: 1, Sym: 0, To: 1}, {From: 0, Sym: 1, To: 1}, {From: 0, Sym: 0, To: 1}, {From: 0, Sym: 0, To: 1}}}
	ordered := api.Auto{States: 2, Symbols: 2, Start: []int{0, 1}, Final: []int{1}, Edges: []api.Edge{{From: 0, Sym: 0, To: 1}, {From: 0, Sym: 1, To: 1}, {From: 1, Sym: 0, To: 1}}}
	if b := testkit.InOrder(a); !reflect.DeepEqual(b, ordered) {
		t.Errorf("InOrder: %v", b)
	}
	if words := testkit.Words(2, 2); !reflect.DeepEqual(words, [][]int{{}, {0}, {1}, {0, 0}, {0, 1}, {1, 0}, {1, 1}}) {
		t.Errorf("Words: %v", words)
	}
	if paths := testkit.Paths(a, []int{0}); !reflect.DeepEqual(paths, [][]int{{0, 1}, {1, 1}}) {
		t.Errorf("Paths: %v", paths)
	}
	if !testkit.Takes(a, nil) || !testkit.Takes(a, []int{1, 0}) || testkit.Takes(a, []int{0, 1}) {
		t.Errorf("Takes")
	}
}

func TestEvery(t *testing.T) {
	seen := map[string]int{}
	for a := range testkit.Every(2, 1) {
		if a.States != 2 || a.Symbols != 1 || !testkit.SameAuto(a, testkit.InOrder(a)) {
			t.Errorf("Every: %v", a)
		}
		seen[fmt.Sprint(a)]++
	}
	if len(seen) != 256 {
		t.Errorf("Every: %d automata of 2 states and a symbol", len(seen))
	}
}

// TestMemory: what Memory says of a call that answers the same memory again, or in two lists, or what it was handed in.
func TestMemory(t *testing.T) {
	kept, n := []int{1, 2}, 0
	unchanged := func() bool { return n < 2 && kept[0] == 1 }
	twice := []int{3, 4}
	for want, ask := range map[string]func() testkit.Answers{
		"": func() testkit.Answers {
			return testkit.Answers{Lists: [][]int{{5}, {6}}, Autos: []api.Auto{{Start: []int{7}, Final: []int{8}, Edges: []api.Edge{{}}}}, Twos: [][][2]int{{{9, 10}}}}
		},
		"two lists that were answered share memory": func() testkit.Answers {
			return testkit.Answers{Lists: [][]int{twice[:1]}, Autos: []api.Auto{{Start: twice[1:]}}}
		},
		"an answer shares memory with what was handed in": func() testkit.Answers { n = 1 - n; return testkit.Answers{Lists: [][]int{kept[n : n+1 : n+1]}} },
		"what was handed in has changed":                  func() testkit.Answers { n = 2; return testkit.Answers{} },
		"an answer shares memory with what is kept":       func() testkit.Answers { twice[0]++; return testkit.Answers{Lists: [][]int{{twice[0]}}} },
	} {
		n = 0
		if wrong := testkit.Memory(ask, unchanged); wrong != want {
			t.Errorf("Memory: %q; it should be %q", wrong, want)
		}
		kept[0], kept[1] = 1, 2
	}
}

func TestMemoryOfPairs(t *testing.T) {
	twice := [][2]int{{1, 2}}
	ask := func() testkit.Answers { return testkit.Answers{Twos: [][][2]int{twice}} }
	if wrong := testkit.Memory(ask, func() bool { return true }); wrong != "two lists that were answered share memory" {
		t.Errorf("Memory: %q", wrong)
	}
	var x, y testkit.Answers
	x.Pairs([][2]int{{1, 2}}, api.OK)
	y.Pairs([][2]int{{1, 3}}, api.OK)
	if x.Same(y) || !x.Same(x) || x.Nothing() {
		t.Errorf("Pairs")
	}
}

func TestExprByHand(t *testing.T) {
	a, b := testkit.Leaf(api.XSym, 0), testkit.Leaf(api.XSym, 1)
	e := testkit.Node(api.XStar, testkit.Node(api.XAlt, testkit.Node(api.XCat, a, b), a))
	if want := []api.ExprNode{{Kind: api.XStar, Size: 6}, {Kind: api.XAlt, Size: 5}, {Kind: api.XCat, Size: 3}, {Kind: api.XSym, Size: 1}, {Kind: api.XSym, Sym: 1, Size: 1}, {Kind: api.XSym, Size: 1}}; !reflect.DeepEqual(e.Nodes, want) {
		t.Errorf("Node: %v", e)
	}
	if kids := testkit.Kids(testkit.Kids(e)[0]); len(kids) != 2 || !testkit.SameExpr(kids[0], testkit.Node(api.XCat, a, b)) || !testkit.SameExpr(kids[1], a) {
		t.Errorf("Kids: %v", kids)
	}
	for word, want := range map[string]bool{"": true, "0": true, "1": false, "01": true, "00": true, "10": false, "0010": true, "0110": false, "01001": true} {
		var w []int
		for _, c := range word {
			w = append(w, int(c-'0'))
		}
		if testkit.Means(e, w) != want {
			t.Errorf("Means: %q", word)
		}
	}
	for e, want := range map[*api.Expr]bool{{Nodes: testkit.Leaf(api.XNone, 0).Nodes}: false, {Nodes: testkit.Leaf(api.XEmpty, 0).Nodes}: true, {Nodes: b.Nodes}: false} {
		if testkit.Means(*e, nil) != want {
			t.Errorf("Means: %v, the empty word", *e)
		}
	}
}

func TestEveryExpr(t *testing.T) {
	seen := map[string]int{}
	for _, e := range testkit.EveryExpr(4, 2) {
		seen[fmt.Sprint(e)]++
	}
	if len(seen) != 4+4+36+100 || len(testkit.EveryExpr(4, 2)) != len(seen) {
		t.Errorf("EveryExpr: %d expressions", len(seen))
	}
	if e := testkit.Long(api.XCat, 5); !testkit.SameExpr(e, testkit.Node(api.XCat, testkit.Leaf(api.XSym, 0), testkit.Node(api.XCat, testkit.Leaf(api.XSym, 0), testkit.Leaf(api.XSym, 0)))) {
		t.Errorf("Long: %v", e)
	}
}

// TestNested tells by hand what is nested; a word that is drawn of an expression is one of its words.
func TestNested(t *testing.T) {
	a, b := testkit.Leaf(api.XSym, 0), testkit.Leaf(api.XSym, 1)
	if e := testkit.Leaning(api.XAlt, 5); !testkit.SameExpr(e, testkit.Node(api.XAlt, testkit.Node(api.XAlt, a, a), a)) {
		t.Errorf("Leaning: %v", e)
	}
	if e := testkit.Stars(2, b); !testkit.SameExpr(e, testkit.Node(api.XStar, testkit.Node(api.XStar, b))) {
		t.Errorf("Stars: %v", e)
	}
	d := testkit.Draw(rand.New(rand.NewPCG(0, 2)).IntN)
	e := testkit.Node(api.XCat, testkit.Node(api.XStar, testkit.Node(api.XAlt, a, testkit.Node(api.XCat, b, a))), b)
	seen := map[string]int{}
	for range 100 {
		w := d.WordOf(e)
		seen[fmt.Sprint(w)]++
		if !testkit.Means(e, w) {
			t.Errorf("WordOf: %v", w)
		}
	}
	if len(seen) < 4 {
		t.Errorf("WordOf: %v", seen)
	}
}

func TestMemoryOfExprs(t *testing.T) {
	twice := testkit.Leaf(api.XSym, 1)
	ask := func() testkit.Answers { return testkit.Answers{Exprs: []api.Expr{twice}} }
	if wrong := testkit.Memory(ask, func() bool { return true }); wrong != "two lists that were answered share memory" {
		t.Errorf("Memory: %q", wrong)
	}
	var none, x, y, z testkit.Answers
	none.Read(api.Expr{}, api.Problem{Code: api.ErrSyntax, At: 3})
	none.Text("", api.ErrArg)
	x.Read(testkit.Leaf(api.XSym, 1), api.Problem{})
	y.Read(testkit.Leaf(api.XSym, 2), api.Problem{})
	z.Text("a", api.OK)
	if !none.Nothing() || x.Nothing() || z.Nothing() || x.Same(y) || !x.Same(x) || z.Same(none) {
		t.Errorf("Read, Text")
	}
}

func TestDrawn(t *testing.T) {
	d := testkit.Draw(rand.New(rand.NewPCG(0, 1)).IntN)
	for range 200 {
		a := d.Auto(4, 3)
		if b := d.Shuffled(a); !testkit.SameAuto(testkit.InOrder(a), testkit.InOrder(b)) {
			t.Errorf("Shuffled: %v, %v", a, b)
		}
	}
}

func TestDfaByHand(t *testing.T) {
	d := testkit.Dfa(2, 2, 1, []int{1}, 0, 1, 1, 0)
	for word, want := range map[string]int{"": 1, "0": 1, "1": 0, "10": 0, "11": 1, "0111": 0} {
		var w []int
		for _, c := range word {
			w = append(w, int(c-'0'))
		}
		if s := testkit.Leads(d, w); s != want || testkit.TakesDfa(d, w) != (want == 1) {
			t.Errorf("Leads: %q: %d", word, s)
		}
	}
	if testkit.NoDfa(d) || !testkit.NoDfa(api.Dfa{}) || testkit.NoDfa(api.Dfa{Next: []int{}}) {
		t.Errorf("NoDfa")
	}
	for _, e := range []api.Dfa{testkit.Dfa(2, 2, 1, nil, 0, 1, 1, 0), testkit.Dfa(2, 2, 0, []int{1}, 0, 1, 1, 0), testkit.Dfa(2, 2, 1, []int{1}, 0, 1, 1, 1), testkit.Dfa(3, 2, 1, []int{1}, 0, 1, 1, 0), testkit.Dfa(2, 1, 1, []int{1}, 0, 1, 1, 0)} {
		if testkit.SameDfa(d, e) || !testkit.SameDfa(e, e) {
			t.Errorf("SameDfa: %v", e)
		}
	}
}

func TestRing(t *testing.T) {
	if d := testkit.Ring(3, 1, 2); !testkit.SameDfa(d, testkit.Dfa(3, 2, 0, []int{0}, 1, 2, 2, 0, 0, 1)) {
		t.Errorf("Ring: %v", d)
	}
}

// TestLengthOrder: Words gives words as they rise.
func TestLengthOrder(t *testing.T) {
	words := testkit.Words(3, 3)
	for i, v := range words {
		for j, w := range words {
			if got := testkit.LengthOrder(v, w); got < 0 != (i < j) || got > 0 != (i > j) {
				t.Errorf("LengthOrder of %v, %v: %d", v, w, got)
			}
		}
	}
}

func TestEveryDfa(t *testing.T) {
	for _, c := range []struct{ states, symbols, want int }{{1, 0, 2}, {2, 0, 8}, {2, 1, 32}, {2, 2, 128}, {3, 1, 648}} {
		seen := map[string]int{}
		for d := range testkit.EveryDfa(c.states, c.symbols) {
			seen[fmt.Sprint(d)]++
			if d.States != c.states || d.Symbols != c.symbols || len(d.Next) != c.states*c.symbols {
				t.Errorf("EveryDfa: %v", d)
			}
		}
		if len(seen) != c.want {
			t.Errorf("EveryDfa: %d of %d states and %d symbols", len(seen), c.states, c.symbols)
		}
	}
}

// TestMemoryOfDfas: lists of a complete automaton, lists in a list, and the list that holds them.
func TestMemoryOfDfas(t *testing.T) {
	twice, outer := []int{1, 2}, [][]int{{1}, {2}}
	for i, ask := range []func() testkit.Answers{
		func() testkit.Answers { return testkit.Answers{Dfas: []api.Dfa{{Final: twice}}} },
		func() testkit.Answers { return testkit.Answers{Dfas: []api.Dfa{{Next: twice}}} },
		func() testkit.Answers { return testkit.Answers{Groups: [][][]int{{twice[:1], twice[1:]}}} },
		func() testkit.Answers {
			outer[0], outer[1] = []int{1}, []int{2}
			return testkit.Answers{Groups: [][][]int{outer}}
		},
	} {
		if wrong := testkit.Memory(ask, func() bool { return true }); wrong != "two lists that were answered share memory" {
			t.Errorf("Memory of %d: %q", i, wrong)
		}
	}
	fresh := func() testkit.Answers {
		return testkit.Answers{Dfas: []api.Dfa{{Final: []int{1}, Next: []int{2}}}, Groups: [][][]int{{{3}, {4}}}, Counts: []int{5}}
	}
	if wrong := testkit.Memory(fresh, func() bool { return true }); wrong != "" {
		t.Errorf("Memory: %q", wrong)
	}
	for i, change := range []func(x *testkit.Answers){
		func(x *testkit.Answers) { x.Dfa(api.Dfa{States: 1}, api.OK) },
		func(x *testkit.Answers) { x.Group([][]int{{1}}, api.OK) },
		func(x *testkit.Answers) { x.Count(1, api.OK) },
	} {
		var none, x testkit.Answers
		none.Code(api.OK)
		change(&x)
		if x.Nothing() || !none.Nothing() || x.Same(none) || !x.Same(x) {
			t.Errorf("Same, Nothing: %d", i)
		}
	}
}

// TestMemoryOfTaken: the sets of pairs that were kept, and the list that holds the pairs.
func TestMemoryOfTaken(t *testing.T) {
	twice, outer := []int{1, 2}, make([]api.Taken, 1)
	for i, ask := range []func() testkit.Answers{
		func() testkit.Answers {
			return testkit.Answers{Takens: [][]api.Taken{{{Set: twice[:1]}, {Set: twice[1:]}}}}
		},
		func() testkit.Answers { return testkit.Answers{Takens: [][]api.Taken{outer}} },
		func() testkit.Answers {
			return testkit.Answers{Lists: [][]int{twice}, Takens: [][]api.Taken{{{Set: twice}}}}
		},
	} {
		if wrong := testkit.Memory(ask, func() bool { return true }); wrong != "two lists that were answered share memory" {
			t.Errorf("Memory of %d: %q", i, wrong)
		}
	}
	fresh := func() testkit.Answers {
		return testkit.Answers{Lists: [][]int{{3}}, Takens: [][]api.Taken{{{State: 1, Set: []int{2}}, {Set: []int{}}}, nil}}
	}
	if wrong := testkit.Memory(fresh, func() bool { return true }); wrong != "" {
		t.Errorf("Memory: %q", wrong)
	}
}

func TestTakenAndFound(t *testing.T) {
	pair := api.Taken{State: 1, Set: []int{2}, Link: api.Link{Parent: 3, Sym: 4}}
	var none, x testkit.Answers
	none.Taken(nil, api.ErrBudget)
	none.Found(api.Found{}, api.ErrBudget)
	x.Taken([]api.Taken{pair}, api.OK)
	if !none.Nothing() || x.Nothing() || !x.Same(x) {
		t.Errorf("Taken")
	}
	for _, other := range []api.Taken{{}, {Set: pair.Set, Link: pair.Link}, {State: 1, Link: pair.Link}, {State: 1, Set: pair.Set, Link: api.Link{Parent: 3}}} {
		if testkit.SameTaken([]api.Taken{pair}, []api.Taken{other}) {
			t.Errorf("SameTaken: %v", other)
		}
	}
	for _, f := range []api.Found{{Yes: true}, {Has: true}, {Word: []int{}}, {Side: 1}, {Pairs: 1}} {
		var y testkit.Answers
		y.Found(f, api.ErrBudget)
		if y.Nothing() {
			t.Errorf("Found: %v", f)
		}
	}
}

func TestSideBySide(t *testing.T) {
	a, b := testkit.Auto(2, 2, []int{1}, []int{0}, 0, 1, 1), testkit.Auto(1, 2, []int{0}, []int{0}, 0, 0, 0)
	if u := testkit.SideBySide(a, b); !testkit.SameAuto(u, testkit.Auto(3, 2, []int{1, 2}, []int{0, 2}, 0, 1, 1, 2, 0, 2)) {
		t.Errorf("SideBySide: %v", u)
	}
}

// TestSpoiltDfa: the one that is spoilt stays as it is.
func TestSpoiltDfa(t *testing.T) {
	d, same := testkit.RoomyDfa(testkit.Dfa(2, 2, 1, []int{1}, 0, 1, 1, 0))
	for _, bad := range testkit.SpoiltDfa(d) {
		if testkit.SameDfa(bad, d) {
			t.Errorf("SpoiltDfa: %v", bad)
		}
	}
	if !same() {
		t.Errorf("SpoiltDfa has changed %v", d)
	}
}

func TestRelations(t *testing.T) {
	m := testkit.Relation(3, func(p, q int) bool { return p < q })
	if !testkit.SameMatrix(m, api.Matrix{N: 3, Rows: [][]int{{1, 2}, {2}, {}}}) || !testkit.HasPair(m, 0, 2) || testkit.HasPair(m, 2, 0) {
		t.Errorf("Relation: %v", m)
	}
	for _, n := range []api.Matrix{{}, {N: 3}, {N: 2, Rows: m.Rows}, {N: 3, Rows: [][]int{{1, 2}, {2}, {0}}}} {
		if testkit.SameMatrix(m, n) {
			t.Errorf("SameMatrix: %v", n)
		}
	}
}

// TestGreatest: one that can do more, one that is marked, one that leads to what may not stand, either way round.
func TestGreatest(t *testing.T) {
	a := testkit.Auto(4, 2, []int{3}, []int{2}, 0, 0, 2, 1, 0, 2, 1, 1, 2, 3, 0, 0)
	forward, backward := testkit.Greatest(a, false), testkit.Greatest(a, true)
	if !testkit.SameMatrix(forward, api.Matrix{N: 4, Rows: [][]int{{0, 1}, {1}, {2}, {3}}}) || !testkit.SameMatrix(backward, api.Matrix{N: 4, Rows: [][]int{{0}, {0, 1, 2, 3}, {2}, {3}}}) {
		t.Errorf("Greatest: %v, %v", forward, backward)
	}
	empty := api.Matrix{N: 4, Rows: make([][]int, 4)}
	if testkit.Stands(a, empty, 0, 1, false) || !testkit.Stands(a, forward, 0, 1, false) || testkit.Stands(a, forward, 1, 0, false) || testkit.Stands(a, forward, 2, 3, false) || testkit.Stands(a, backward, 3, 2, true) {
		t.Errorf("Stands")
	}
}

func TestKin(t *testing.T) {
	d := testkit.Draw(rand.New(rand.NewPCG(0, 2)).IntN)
	alike := 0
	for i := range 300 {
		a := d.Kin(i%5, 2)
		if a.States != i%5 || a.Symbols > 2 {
			t.Fatalf("Kin: %v", a)
		}
		m := testkit.Greatest(a, false)
		for p, row := range m.Rows {
			if slices.ContainsFunc(row, func(q int) bool { return q != p && testkit.HasPair(m, q, p) }) {
				alike++
			}
		}
	}
	if alike < 100 {
		t.Errorf("Kin: %d states are like another one", alike)
	}
}

// TestMemoryOfRows: lists of texts.
func TestMemoryOfRows(t *testing.T) {
	twice := []string{"a", "b"}
	for i, ask := range []func() testkit.Answers{
		func() testkit.Answers { return testkit.Answers{Rows: [][]string{twice}} },
		func() testkit.Answers { return testkit.Answers{Rows: [][]string{twice[:1], twice[1:]}} },
	} {
		if wrong := testkit.Memory(ask, func() bool { return true }); wrong != "two lists that were answered share memory" {
			t.Errorf("Memory of %d: %q", i, wrong)
		}
	}
	fresh := func() testkit.Answers { return testkit.Answers{Rows: [][]string{{"a"}, {"b", "c"}, nil}} }
	if wrong := testkit.Memory(fresh, func() bool { return true }); wrong != "" {
		t.Errorf("Memory: %q", wrong)
	}
	var none, x, y testkit.Answers
	none.Row(nil, api.OK)
	x.Row([]string{"a"}, api.OK)
	y.Row([]string{"b"}, api.OK)
	if !none.Nothing() || x.Nothing() || x.Same(none) || x.Same(y) || !x.Same(x) {
		t.Errorf("Row")
	}
}

// TestMemoryOfCerts: the sets of a certificate's pairs, and the list that holds the pairs.
func TestMemoryOfCerts(t *testing.T) {
	twice, outer := []int{1, 2}, make([]api.Pair, 1)
	for i, ask := range []func() testkit.Answers{
		func() testkit.Answers {
			return testkit.Answers{Certs: []api.Cert{{Pairs: []api.Pair{{Set: twice[:1]}, {Set: twice[1:]}}}}}
		},
		func() testkit.Answers { return testkit.Answers{Certs: []api.Cert{{Pairs: outer}}} },
		func() testkit.Answers {
			return testkit.Answers{Lists: [][]int{twice}, Certs: []api.Cert{{Pairs: []api.Pair{{Set: twice}}}}}
		},
	} {
		if wrong := testkit.Memory(ask, func() bool { return true }); wrong != "two lists that were answered share memory" {
			t.Errorf("Memory of %d: %q", i, wrong)
		}
	}
	fresh := func() testkit.Answers {
		return testkit.Answers{Lists: [][]int{{3}}, Certs: []api.Cert{{Pairs: []api.Pair{{State: 1, Set: []int{2}}, {Set: []int{}}}}, {}}}
	}
	if wrong := testkit.Memory(fresh, func() bool { return true }); wrong != "" {
		t.Errorf("Memory: %q", wrong)
	}
}

func TestCerts(t *testing.T) {
	c := api.Cert{Pairs: []api.Pair{{State: 1, Set: []int{2, 3}}}}
	var none, x testkit.Answers
	none.Cert(api.Cert{}, api.ErrCert)
	x.Cert(c, api.OK)
	if !none.Nothing() || x.Nothing() || !x.Same(x) || x.Same(none) {
		t.Errorf("Cert")
	}
	for _, other := range []api.Pair{{}, {Set: []int{2, 3}}, {State: 1}, {State: 1, Set: []int{2, 4}}} {
		if testkit.SameCert(c, api.Cert{Pairs: []api.Pair{other}}) {
			t.Errorf("SameCert: %v", other)
		}
	}
	for i, change := range []func(roomy api.Cert){
		func(roomy api.Cert) {},
		func(roomy api.Cert) { roomy.Pairs[0].State = 0 },
		func(roomy api.Cert) { roomy.Pairs[0].Set[1] = 0 },
		func(roomy api.Cert) { roomy.Pairs[0].Set = append(roomy.Pairs[0].Set[:2], 7) },
		func(roomy api.Cert) { _ = append(roomy.Pairs, api.Pair{State: 9}) },
		func(roomy api.Cert) { _ = append(roomy.Pairs[0].Set, 9) },
	} {
		roomy, same := testkit.RoomyCert(c)
		if !testkit.SameCert(roomy, c) || !same() {
			t.Fatalf("RoomyCert: %v", roomy)
		}
		change(roomy)
		if same() != (i == 0) {
			t.Errorf("RoomyCert: %d is told wrong", i)
		}
	}
}
