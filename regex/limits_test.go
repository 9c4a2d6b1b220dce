package regex_test

import (
	"fmt"
	"math/rand/v2"
	"slices"
	"strings"
	"testing"

	"wordset/api"
	"wordset/names"
	"wordset/regex"
	"wordset/testkit"
)

func stars(n int, e api.Expr) api.Expr { return testkit.Stars(n, e) }

func long(kind api.ExprKind, nodes int) api.Expr { return testkit.Long(kind, nodes) }

// numbered gives so many names.
func numbered(n int) []string {
	list, _ := names.Numbered("q", n)
	return list
}

// TestEveryList holds all lists of few nodes, of kinds, symbols and sizes in and out of range, against the model.
func TestEveryList(t *testing.T) {
	var all, plain []api.ExprNode
	for kind := range api.ExprKind(9) {
		for size := -1; size <= 4; size++ {
			for sym := -1; sym <= 2; sym++ {
				n := api.ExprNode{Kind: kind - 1, Sym: sym, Size: size}
				all = append(all, n)
				if sym == 0 && size > 0 && kind > 0 {
					plain = append(plain, n)
				}
			}
		}
	}
	good := 0
	try := func(nodes ...api.ExprNode) {
		want := api.ErrExpr
		if modelMayBe(nodes) {
			good++
			want = api.OK
		}
		if code := regex.Valid(api.Expr{Nodes: nodes}, 3); code != want {
			t.Fatalf("P9.1: Valid of %v: %d; it should be %d", nodes, code, want)
		}
	}
	for _, x := range all {
		try(x)
		for _, y := range all {
			try(x, y)
		}
	}
	for _, x := range plain {
		for _, y := range plain {
			for _, z := range plain {
				try(x, y, z)
			}
		}
	}
	// Leaves are five with the symbols 0, 1, 2; with 0 alone they are three.
	if want := 5 + 5 + 3 + 2*3*3; good != want {
		t.Errorf("P9.1: %d lists may be; it should be %d", good, want)
	}
}

func TestValidSymbols(t *testing.T) {
	for _, c := range []struct {
		e       api.Expr
		symbols int
		want    api.Errno
	}{
		{a, 1, api.OK}, {a, 0, api.ErrExpr}, {a, -1, api.ErrExpr}, {sym(7), 8, api.OK}, {sym(7), 7, api.ErrExpr},
		{none, 0, api.OK}, {star(empty), -1, api.OK}, {none, -1 << 63, api.OK}, {sym(1<<63 - 1), 1<<63 - 1, api.ErrExpr}, {sym(1<<63 - 2), 1<<63 - 1, api.OK},
		{cat(a, alt(b, star(c1))), 3, api.OK}, {cat(a, alt(b, star(c1))), 2, api.ErrExpr}, {alt(c1, a), 2, api.ErrExpr},
		{sym(128), 129, api.OK}, {sym(-1), 5, api.ErrExpr}, {sym(-1 << 63), 5, api.ErrExpr},
	} {
		if code := regex.Valid(c.e, c.symbols); code != c.want {
			t.Errorf("P9.1: Valid of %v over %d symbols: %d; it should be %d", c.e, c.symbols, code, c.want)
		}
	}
}

// TestLargest: as many nodes as may be, and one more, nested as deep as can be.
func TestLargest(t *testing.T) {
	for _, e := range []api.Expr{stars(1999, a), stars(1, long(api.XCat, 1999)), stars(1, long(api.XAlt, 1999)), cat(a, stars(1, long(api.XCat, 1997)))} {
		if code := regex.Valid(e, 1); code != api.OK || len(e.Nodes) != 2000 {
			t.Errorf("P9.1: %d nodes: %d", len(e.Nodes), code)
		}
		s, code := regex.Print(e, letters)
		if want := modelPrint(e, letters); s != want || code != api.OK {
			t.Errorf("P9.3: Print of 2000 nodes: %d bytes, %d; it should be %d", len(s), code, len(want))
		}
		back, p := regex.Parse(s, letters)
		wantExpr(t, "P9.8: Parse of Print of 2000 nodes", back, p.Code, e)
		x, code := regex.Simple(e)
		wantExpr(t, "P9.5: Simple of 2000 nodes", x, code, modelSimple(e))
		if yes, code := regex.Nullable(e); yes != testkit.Means(e, nil) || code != api.OK {
			t.Errorf("P9.4: Nullable of 2000 nodes: %v, %d", yes, code)
		}
	}
	for _, e := range []api.Expr{stars(2000, a), long(api.XCat, 2001), long(api.XAlt, 2001), {Nodes: make([]api.ExprNode, 1<<20)}} {
		for i, code := range ask(e, "a", letters, 0, nil).Codes {
			if i != 1 && code != api.ErrExpr {
				t.Errorf("P9.1: call %d: %d nodes: %d", i, len(e.Nodes), code)
			}
		}
	}
}

func TestLeaning(t *testing.T) {
	for _, k := range []api.ExprKind{api.XCat, api.XAlt} {
		e := testkit.Leaning(k, 1999)
		if regex.Valid(e, 1) != api.OK {
			t.Fatalf("P9.1: first kids nested")
		}
		s, code := regex.Print(e, letters)
		if code != api.OK || !strings.HasPrefix(s, strings.Repeat("(", 998)+"a") {
			t.Errorf("P9.3: first kids nested: %.20q, %d", s, code)
		}
		back, p := regex.Parse(s, letters)
		wantExpr(t, "P9.8: first kids nested", back, p.Code, e)
		want := e
		if k == api.XAlt {
			want = a
		}
		x, code := regex.Simple(e)
		wantExpr(t, "P9.5: first kids nested", x, code, want)
	}
}

// TestParseSizes: each sign that makes nodes, at MaxExpr nodes and one or two above.
func TestParseSizes(t *testing.T) {
	most := strings.Repeat("a ", 999) + "a"
	for _, text := range []string{
		most + "*", strings.Repeat("a|", 999) + "a*", "(" + most + ")*", "a" + strings.Repeat("*", 1999), strings.Repeat("(", 1999) + "a" + strings.Repeat(")*", 1999),
		"%" + strings.Repeat("?", 999) + "*", "(" + strings.Repeat("a ", 499) + "a)+", "((" + strings.Repeat("a ", 249) + "a)*)+" + strings.Repeat(" a", 499),
		strings.Repeat("a ", 498) + "a|(" + strings.Repeat("~|", 498) + "%)**" + "***",
	} {
		want, problem := modelParse(text, letters)
		e, p := regex.Parse(text, letters)
		if problem.Code != api.OK {
			t.Fatalf("%.30q: %v, %d nodes", text, problem, len(want.Nodes))
		}
		wantExpr(t, fmt.Sprintf("P9.2: Parse of %.30q", text), e, p.Code, want)
		if len(e.Nodes) != 2000 {
			t.Errorf("P9.2: %.30q has %d nodes", text, len(e.Nodes))
			continue
		}
		for _, more := range []string{"*", "?", "+", " a", "|a", "(%)", "|~|~", "** b"} {
			wantProblem(t, text+more, letters, api.ErrSize, 0)
		}
	}
}

// TestLongTexts: what is too large is still held against the syntax and the names, and costs no more than going through it.
func TestLongTexts(t *testing.T) {
	const n = 1 << 17
	for _, text := range []string{
		strings.Repeat("a ", n) + "a", strings.Repeat("a|", n) + "a", "a" + strings.Repeat("*", n), "a" + strings.Repeat("+", n), "a" + strings.Repeat("?", n),
		strings.Repeat("(a ", n) + "a" + strings.Repeat(")+", n), strings.Repeat("((a)*b)", n) + "*", strings.Repeat("(a"+strings.Repeat("*", 1990)+")", 200) + "|a",
	} {
		wantProblem(t, text, letters, api.ErrSize, 0)
		wantProblem(t, text+" x*", letters, api.ErrUnknown, len(text)+1)
		wantProblem(t, text+" x* y", letters, api.ErrUnknown, len(text)+1)
		wantProblem(t, text+" x*)", letters, api.ErrSyntax, len(text)+3)
		wantProblem(t, text+"|", letters, api.ErrSyntax, len(text)+1)
		wantProblem(t, text+"(a", letters, api.ErrSyntax, len(text)+2)
		wantProblem(t, text+"(*", letters, api.ErrSyntax, len(text)+1)
		wantProblem(t, text+"|*", letters, api.ErrSyntax, len(text)+1)
		wantProblem(t, text+"\n", letters, api.ErrSyntax, len(text))
	}
	deep := strings.Repeat("( ", 1<<16) + "a" + strings.Repeat("*", 1999) + strings.Repeat("\t)", 1<<16)
	e, p := regex.Parse(deep, letters)
	wantExpr(t, "P9.2: 65536 brackets", e, p.Code, stars(1999, a))
	wantProblem(t, deep[:len(deep)-1], letters, api.ErrSyntax, len(deep)-1)
	wantProblem(t, deep+")", letters, api.ErrSyntax, len(deep))
	wantProblem(t, strings.Repeat("(", 1<<16), letters, api.ErrSyntax, 1<<16)
	wantProblem(t, strings.Repeat(" ", 1<<20), letters, api.ErrSyntax, 1<<20)
}

func TestParseEdges(t *testing.T) {
	full := strings.Repeat("x", 16)
	for text, at := range map[string]int{
		" ": 1, "\t \t": 3, "a||b": 2, "a |": 3, "|": 0, "|a": 0, "*": 0, "+a": 0, "?": 0, "()": 1, "( )": 2, "a()": 2, "(a|)": 3, "(*)": 1, "((a)": 4, "(a))": 3,
		"a\n": 1, "a\r": 1, "\x00": 0, "é": 0, "aé": 1, "a - b": 2, "zz (": 4, "zz )": 3, ") zz": 0, "zz -": 3, full + "x": 16, "a " + full + "y z": 18, full + full: 16, "(" + full + "0)": 17,
		full + "x )": 16, "~~)": 2, "a** *)": 5,
	} {
		wantProblem(t, text, letters, api.ErrSyntax, at)
	}
	for text, at := range map[string]int{full: 0, "a " + full + " zz": 2, "A": 0, "c": 0, "c1 c 1": 3, "a|(b zz)": 5, "  _": 2, "zz" + strings.Repeat("*", 3000): 0, "a'": 0} {
		wantProblem(t, text, letters, api.ErrUnknown, at)
	}
	odd := []string{full, "'", "_", "0", "aB9"}
	for text, want := range map[string]api.Expr{
		full + "*": star(sym(0)), "'": sym(1), "_(0)aB9": cat(sym(2), cat(sym(3), sym(4))), "0|'": alt(sym(3), sym(1)), "\t%\t": empty, "~ ~": cat(none, none), "~~": cat(none, none),
		"0 + ? *": star(alt(cat(sym(3), star(sym(3))), empty)), "'~'": cat(sym(1), cat(none, sym(1))),
	} {
		e, p := regex.Parse(text, odd)
		wantExpr(t, fmt.Sprintf("P9.2: Parse of %q", text), e, p.Code, want)
	}
}

// TestNames: which names may be, and that this comes ahead of all that may be wrong with a text, but behind an expression that may not be.
func TestNames(t *testing.T) {
	full := strings.Repeat("x", 16)
	for _, list := range [][]string{nil, {}, {"a"}, {full}, {"a", "A", "_", "'", "0"}, numbered(128)} {
		e, p := regex.Parse("~", list)
		wantExpr(t, "P9.2: Parse with names that may be", e, p.Code, none)
		if s, code := regex.Print(none, list); s != "~" || code != api.OK {
			t.Errorf("P9.3: Print with names that may be: %q, %d", s, code)
		}
	}
	for _, list := range [][]string{{""}, {"a", "b", "a"}, {full + "x"}, {"a b"}, {"a", "b", ""}, {"é"}, {"a", "-"}, numbered(129), slices.Repeat([]string{"a"}, 200), make([]string, 1<<20)} {
		for _, text := range []string{"~", "a", ")", "", "zz", "a" + strings.Repeat("+", 40)} {
			wantProblem(t, text, list, api.ErrArg, 0)
		}
		for want, e := range map[api.Errno]api.Expr{api.ErrArg: sym(1000), api.ErrExpr: {}} {
			if s, code := regex.Print(e, list); s != "" || code != want {
				t.Errorf("P9.3: Print with names that may not be: %q, %d; it should be %d", s, code, want)
			}
		}
	}
	e, p := regex.Parse("q127", numbered(128))
	wantExpr(t, "P9.2: the last name", e, p.Code, sym(127))
	for _, c := range []struct {
		e     api.Expr
		names []string
	}{{a, nil}, {b, letters[:1]}, {sym(128), numbered(128)}, {cat(a, star(c1)), letters[:2]}, {sym(1<<63 - 1), letters}} {
		if s, code := regex.Print(c.e, c.names); s != "" || code != api.ErrExpr {
			t.Errorf("P9.3: Print of a symbol without a name: %q, %d", s, code)
		}
	}
	if s, code := regex.Print(sym(127), numbered(128)); s != "q127" || code != api.OK {
		t.Errorf("P9.3: Print of the last name: %q, %d", s, code)
	}
}

// TestDeriveSizes: what counts is the derivative ahead of its being made simple.
func TestDeriveSizes(t *testing.T) {
	y := long(api.XCat, 995)
	for _, c := range []struct {
		e    api.Expr
		size int
	}{
		{star(cat(a, cat(a, y))), 2000},
		{cat(cat(star(cat(a, star(long(api.XCat, 993)))), b), star(a)), 2001},
		{cat(cat(star(cat(a, star(long(api.XCat, 993)))), b), a), 2000},
		{cat(a, star(long(api.XAlt, 1997))), 2000}, {cat(empty, long(api.XCat, 999)), 2001}, {cat(star(none), long(api.XCat, 997)), 2000},
	} {
		for k := range 2 {
			raw := modelDerive(c.e, k)
			if len(raw.Nodes) != c.size {
				t.Fatalf("%d nodes; it should be %d", len(raw.Nodes), c.size)
			}
			x, code := regex.Derive(c.e, k)
			if c.size > 2000 {
				wantError(t, "P9.6: Derive, too large", x, code, api.ErrSize)
				continue
			}
			wantExpr(t, "P9.6: Derive, as large as may be", x, code, modelSimple(raw))
		}
	}
	nullable := testkit.Leaning(api.XCat, 1999)
	for n := range nullable.Nodes {
		if nullable.Nodes[n].Kind == api.XSym {
			nullable.Nodes[n].Kind = api.XEmpty
		}
	}
	for _, e := range []api.Expr{stars(1999, a), stars(1, long(api.XAlt, 1999)), nullable} {
		for _, k := range []int{0, 5, 1<<63 - 1} {
			x, code := regex.Derive(e, k)
			wantError(t, "P9.6: Derive, much too large", x, code, api.ErrSize)
		}
		for _, k := range []int{-1, -1 << 63} {
			x, code := regex.Derive(e, k)
			wantError(t, "P9.6: Derive by a symbol below 0", x, code, api.ErrArg)
			x, code = regex.Derive(api.Expr{}, k)
			wantError(t, "P9.6: Derive of none", x, code, api.ErrExpr)
		}
	}
	x, code := regex.Derive(cat(sym(1<<63-1), a), 1<<63-1)
	wantExpr(t, "P9.6: Derive by the greatest symbol", x, code, a)
}

// TestLongWords: Matches knows no limit of derivatives.
func TestLongWords(t *testing.T) {
	for _, c := range []struct {
		e    api.Expr
		n    int
		want bool
	}{
		{stars(1999, a), 3000, true}, {stars(1999, a), 0, true}, {long(api.XCat, 1999), 1000, true}, {long(api.XCat, 1999), 999, false}, {long(api.XCat, 1999), 1001, false},
		{stars(1, long(api.XCat, 1999)), 3000, true}, {stars(1, long(api.XCat, 1999)), 2999, false}, {long(api.XAlt, 1999), 1, true}, {long(api.XAlt, 1999), 2, false},
		{testkit.Leaning(api.XCat, 1999), 1000, true}, {stars(1, testkit.Leaning(api.XAlt, 1999)), 300, true}, {star(a), 1 << 20, true}, {none, 1 << 20, false},
	} {
		word := make([]int, c.n)
		if yes, code := regex.Matches(c.e, word); yes != c.want || code != api.OK {
			t.Errorf("P9.7: Matches of %d nodes, %d symbols: %v, %d", len(c.e.Nodes), c.n, yes, code)
		}
		if c.n == 0 {
			continue
		}
		word[c.n-1] = 1<<63 - 1
		if yes, code := regex.Matches(c.e, word); yes || code != api.OK {
			t.Errorf("P9.7: Matches with a symbol that stands nowhere: %v, %d", yes, code)
		}
		word[c.n-1] = -1
		if yes, code := regex.Matches(c.e, word); yes || code != api.ErrWord {
			t.Errorf("P9.7: Matches with a symbol below 0: %v, %d", yes, code)
		}
		if yes, code := regex.Matches(sym(-1), word); yes || code != api.ErrExpr {
			t.Errorf("P9.7: Matches of what may not be: %v, %d", yes, code)
		}
	}
}

// TestOdd asks with what may be and what may not: no call panics, and beside an error stands nothing.
func TestOdd(t *testing.T) {
	d := testkit.Draw(rand.New(rand.NewPCG(9, 7)).IntN)
	good := 0
	for range 20000 {
		e, word, k := d.OddExpr(), d.OddList(), d.Odd()
		text := changed(d, drawnText(d, 1))
		list := slices.Concat(letters[:d(4)], []string{"x", "", "a"}[:d(8)/6])
		x := ask(e, text, list, k, word)
		mayBe := modelMayBe(e.Nodes)
		if mayBe {
			good++
		}
		for i, code := range x.Codes[3:] {
			if !mayBe && code != api.ErrExpr || mayBe && code == api.ErrExpr {
				t.Fatalf("P9.9: call %d of %v: %d", i, e, code)
			}
		}
		for i, code := range []api.Errno{x.Codes[1], x.Codes[4], x.Codes[5]} {
			if (code == api.OK) != (x.Exprs[i].Nodes != nil) || code == api.OK && !modelMayBe(x.Exprs[i].Nodes) {
				t.Fatalf("P9.9: %v beside the error %d", x.Exprs[i], code)
			}
		}
		if x.Codes[2] != api.OK && x.Texts[0] != "" || x.Codes[3] != api.OK && x.Truths[0] || x.Codes[6] != api.OK && x.Truths[1] {
			t.Fatalf("P9.9: an answer beside an error: %v, %q, %v, %d, %v", e, text, list, k, word)
		}
	}
	if good < 2000 || good > 18000 {
		t.Errorf("%d of 20000 expressions may be", good)
	}
}

func TestMemory(t *testing.T) {
	d := testkit.Draw(rand.New(rand.NewPCG(9, 8)).IntN)
	for i := range 1000 {
		e, word, k, text := d.Expr(1+d(12), 3), d.List(3, d(4)), d(3), drawnText(d, 2)
		if i%4 == 0 {
			e, word, k, text = d.OddExpr(), d.OddList(), d.Odd(), changed(d, text)
		}
		e, sameE := testkit.RoomyExpr(e)
		word, sameW := testkit.Roomy(word, 0)
		list, sameL := testkit.Roomy(letters, "room")
		wrong := testkit.Memory(
			func() testkit.Answers { return ask(e, text, list, k, word) },
			func() bool { return sameE() && sameW() && sameL() },
		)
		if wrong != "" {
			t.Fatalf("P9.9: %s: %v, %q, %d, %v", wrong, e, text, k, word)
		}
	}
}
