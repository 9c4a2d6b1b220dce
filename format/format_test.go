package format_test

import (
	"fmt"
	"math"
	"math/rand/v2"
	"slices"
	"strings"
	"testing"
	"unsafe"

	"wordset/api"
	"wordset/format"
	"wordset/grammar"
	"wordset/testkit"
)

const (
	least = "Ops;Automaton A;States;Final States;Transitions"
	odd   = "Ops a:1 a:0 a:1;Automaton A;States q;Final States r q;Transitions;b(q)->s;a() -> q;b(q) -> s"
)

func letters(n int) string { return strings.Repeat("n", n) }

func wantContent(t *testing.T, s string, want api.File) {
	t.Helper()
	if f, p := format.Parse(s); p != (api.Problem{}) || !same(f, want) {
		t.Errorf("P4.1: Parse(%q) = %v, %v, want %v", s, f, p, want)
	}
}

func wantProblem(t *testing.T, s string, at int) {
	t.Helper()
	f, p := format.Parse(s)
	if p != (api.Problem{Code: api.ErrGrammar, At: at}) {
		t.Errorf("P4.1: Parse(%q): %v, want ErrGrammar at %d", s, p, at)
	}
	if f.Title != "" || f.Ops != nil || f.States != nil || f.Final != nil || f.Rules != nil {
		t.Errorf("P4.1: Parse(%q): a content in spite of the error: %v", s, f)
	}
}

func wantNone(t *testing.T, f api.File) {
	t.Helper()
	if format.Valid(f) {
		t.Errorf("P4.2: Valid(%v)", f)
	}
	if s, e := format.Print(f); s != "" || e != api.ErrFile {
		t.Errorf("P4.3: Print(%v) = %q, %d, want ErrFile alone", f, s, e)
	}
	if a, states, symbols, e := format.Auto(f); e != api.ErrFile || a.States != 0 || a.Symbols != 0 || a.Start != nil || a.Final != nil || a.Edges != nil || states != nil || symbols != nil {
		t.Errorf("P4.4: Auto(%v) = %v, %q, %q, %d, want ErrFile alone", f, a, states, symbols, e)
	}
}

// wantGood is all that holds of a content that may be.
func wantGood(t *testing.T, f api.File) {
	t.Helper()
	if !format.Valid(f) {
		t.Fatalf("P4.2: not Valid(%v)", f)
	}
	s, e := format.Print(f)
	if want := canonical(f); s != want || e != api.OK {
		t.Fatalf("P4.3: Print(%v) = %q, %d, want %q", f, s, e, want)
	}
	g, p := format.Parse(s)
	if p != (api.Problem{}) || !same(f, g) {
		t.Fatalf("P4.6: Parse(Print(%v)) = %v, %v", f, g, p)
	}
	if again, e := format.Print(g); again != s || e != api.OK {
		t.Fatalf("P4.6: printed again %q, %d, was %q", again, e, s)
	}
	want, named := modelAuto(f)
	a, states, symbols, e := format.Auto(f)
	if e != api.OK || !testkit.SameAuto(a, want) || !slices.Equal(states, f.States) || !slices.Equal(symbols, named) {
		t.Fatalf("P4.4: Auto(%v) = %v, %q, %q, %d, want %v", f, a, states, symbols, e, want)
	}
	if n, k, r := format.Count(f); n != len(f.States) || k != len(named) || r != len(f.Rules) {
		t.Fatalf("P4.2: Count(%v) = %d, %d, %d", f, n, k, r)
	}
}

// TestExamples: every row of the chapter's table.
func TestExamples(t *testing.T) {
	wantContent(t, text(least), api.File{Title: "A"})
	f := api.File{
		Title: "A", Ops: []api.Op{{Name: "a", Arity: 1}, {Name: "a"}, {Name: "b", Arity: 1}}, States: []string{"q", "r", "s"}, Final: []string{"q", "r"},
		Rules: []api.Rule{{Op: "b", From: "q", To: "s"}, {Op: "a", To: "q"}},
	}
	wantContent(t, text(odd), f)
	printed := text("Ops a:1 a:0 b:1;Automaton A;States q r s;Final States q r;Transitions;b(q) -> s;a() -> q;")
	if s, e := format.Print(f); s != printed || e != api.OK {
		t.Errorf("P4.3: %q, %d", s, e)
	}
	a, states, symbols, e := format.Auto(f)
	if e != api.OK || !testkit.SameAuto(a, api.Auto{States: 3, Symbols: 2, Start: []int{0}, Final: []int{0, 1}, Edges: []api.Edge{{From: 0, Sym: 1, To: 2}}}) || !slices.Equal(states, []string{"q", "r", "s"}) || !slices.Equal(symbols, []string{"a", "b"}) {
		t.Errorf("P4.4: %v, %q, %q, %d", a, states, symbols, e)
	}
	for s, at := range map[string]int{"": 0, "Ops": 3, "Ops a:2": 6, " Ops": 1, "Ops;;Automat": 12, "Ops " + letters(17): 20} {
		wantProblem(t, text(s), at)
	}
	one := api.Auto{States: 1, Symbols: 1, Start: []int{0}, Final: []int{0}, Edges: []api.Edge{{}}}
	g, e := format.From(one, []string{"q"}, []string{"x"}, "A")
	if s, _ := format.Print(g); e != api.OK || s != text("Ops start:0 x:1;Automaton A;States q;Final States q;Transitions;start() -> q;x(q) -> q;") {
		t.Errorf("P4.5: %q, %d", s, e)
	}
	noOp, disorder := clone(f), clone(f)
	noOp.Rules[0].Op = "c"
	disorder.Final = []string{"r", "q"}
	wantNone(t, noOp)
	wantNone(t, disorder)
}

// TestParseEdges: what is declared by use, doubles, and orders, one by one.
func TestParseEdges(t *testing.T) {
	ops := func(list ...string) (out []api.Op) {
		for _, s := range list {
			out = append(out, api.Op{Name: s[:len(s)-2], Arity: int(s[len(s)-1] - '0')})
		}
		return out
	}
	for _, c := range []struct {
		text string
		want api.File
	}{
		{"Ops a:0 a:1;Automaton A;States;Final States;Transitions", api.File{Title: "A", Ops: ops("a:0", "a:1")}},
		{"Ops a:1 b:0 a:1 b:0 a:0;Automaton A;States;Final States;Transitions", api.File{Title: "A", Ops: ops("a:1", "b:0", "a:0")}},
		{"Ops;Automaton A;States q p q p;Final States;Transitions", api.File{Title: "A", States: []string{"q", "p"}}},
		{"Ops;Automaton A;States q p;Final States p q p;Transitions", api.File{Title: "A", States: []string{"q", "p"}, Final: []string{"q", "p"}}},
		{"Ops;Automaton A;States q;Final States s q r s;Transitions", api.File{Title: "A", States: []string{"q", "s", "r"}, Final: []string{"q", "s", "r"}}},
		{"Ops;Automaton A;States;Final States;Transitions;a(p)->q", api.File{Title: "A", Ops: ops("a:1"), States: []string{"p", "q"}, Rules: []api.Rule{{Op: "a", From: "p", To: "q"}}}},
		{"Ops;Automaton A;States q;Final States;Transitions;a(p)->q", api.File{Title: "A", Ops: ops("a:1"), States: []string{"q", "p"}, Rules: []api.Rule{{Op: "a", From: "p", To: "q"}}}},
		{"Ops;Automaton A;States q p;Final States;Transitions;a(p)->q", api.File{Title: "A", Ops: ops("a:1"), States: []string{"q", "p"}, Rules: []api.Rule{{Op: "a", From: "p", To: "q"}}}},
		{"Ops;Automaton A;States;Final States q;Transitions;a(p)->q", api.File{Title: "A", Ops: ops("a:1"), States: []string{"q", "p"}, Final: []string{"q"}, Rules: []api.Rule{{Op: "a", From: "p", To: "q"}}}},
		{"Ops;Automaton A;States;Final States r;Transitions;a()->q;a(q)->p;a()->r;a()->q", api.File{Title: "A", Ops: ops("a:0", "a:1"), States: []string{"r", "q", "p"}, Final: []string{"r"}, Rules: []api.Rule{{Op: "a", To: "q"}, {Op: "a", From: "q", To: "p"}, {Op: "a", To: "r"}}}},
		{"Ops a:0;Automaton A;States;Final States;Transitions;a(q)->q;b()->q;a(q) -> q;b(q)->q", api.File{Title: "A", Ops: ops("a:0", "a:1", "b:0", "b:1"), States: []string{"q"}, Rules: []api.Rule{{Op: "a", From: "q", To: "q"}, {Op: "b", To: "q"}, {Op: "b", From: "q", To: "q"}}}},
		{"Ops Ops:1;Automaton Automaton;States Final States;Final States States Transitions;Transitions;Ops(Ops)->States;0()->1", api.File{Title: "Automaton", Ops: ops("Ops:1", "0:0"), States: []string{"Final", "States", "Transitions", "Ops", "1"}, Final: []string{"States", "Transitions"}, Rules: []api.Rule{{Op: "Ops", From: "Ops", To: "States"}, {Op: "0", To: "1"}}}},
		{"Ops 0:1 1:0 ':0;Automaton ';States _ 0 1 " + letters(16) + ";Final States 1;Transitions;1()->0", api.File{Title: "'", Ops: ops("0:1", "1:0", "':0"), States: []string{"_", "0", "1", letters(16)}, Final: []string{"1"}, Rules: []api.Rule{{Op: "1", To: "0"}}}},
	} {
		wantContent(t, text(c.text), c.want)
		wantGood(t, c.want)
	}
}

// TestDrawn: drawn lists, in drawn layouts: the content is what they mean, and may be.
func TestDrawn(t *testing.T) {
	r := rand.New(rand.NewPCG(4, 1))
	for i := range 6000 {
		pool := []string{"a", "b", "q", "p'", letters(16), "Final", "0"}
		w := drawn(r, pool[:1+i%len(pool)])
		want := meant(w)
		wantContent(t, canonical(w), want)
		s := scattered(r, w)
		if f, p := format.Parse(s); p != (api.Problem{}) || !same(f, want) {
			t.Fatalf("P4.7: Parse(%q) = %v, %v, want %v", s, f, p, want)
		}
		if !wholeFile.MatchString(s + "\n") {
			t.Fatalf("the test's own text %q is no file", s)
		}
		wantGood(t, want)
	}
}

// TestChanged: texts with bytes changed, left out, put in: a content just if they are files, and else grammar's offset.
func TestChanged(t *testing.T) {
	r := rand.New(rand.NewPCG(4, 2))
	bytes := "aq01':()->> \t\n\r-_OFS\x00\xe9;#"
	files := 0
	for range 20000 {
		s := []byte(scattered(r, drawn(r, []string{"a", "q", "b1"})))
		for range 1 + r.IntN(2) {
			at := r.IntN(len(s))
			b := bytes[r.IntN(len(bytes))]
			switch r.IntN(3) {
			case 0:
				s[at] = b
			case 1:
				s = slices.Delete(s, at, at+1)
			case 2:
				s = slices.Insert(s, at, b)
			}
		}
		if !wholeFile.Match(append(slices.Clone(s), '\n')) {
			at, _ := grammar.Check(string(s))
			wantProblem(t, string(s), at)
			continue
		}
		files++
		wantContent(t, string(s), modelRead(string(s)))
	}
	if files < 1000 {
		t.Errorf("only %d of the texts were files", files)
	}
}

// TestBeginnings: every beginning of a file that is none is refused at its length.
func TestBeginnings(t *testing.T) {
	s := text("; ;Ops a:1;;Automaton A ;States q;Final States q;Transitions;a() -> q; ;a(q)->q")
	for n := range len(s) {
		if wholeFile.MatchString(s[:n] + "\n") {
			wantContent(t, s[:n], modelRead(s[:n]))
		} else {
			wantProblem(t, s[:n], n)
		}
	}
}

func TestFirstProblemStays(t *testing.T) {
	for _, c := range []struct {
		text string
		at   int
	}{
		{" Ops", 1}, {"Ops\r", 3}, {"Ops a:2", 6}, {"Ops a :1", 5}, {"Ops " + letters(17), 20}, {"Ops;Automaton;", 13}, {"Ops;Automaton A B", 16},
		{"Ops;Automaton A;States q;Final  States", 31}, {"Ops;Automaton A;States q:1", 24}, {least + " x", len(least) + 1}, {least + ";a( q", len(least) + 3},
		{least + ";a(q )", len(least) + 4}, {least + ";a (q)", len(least) + 2}, {least + ";a()->q r", len(least) + 8}, {least + ";a(q)- >", len(least) + 6}, {odd + ";#", len(odd) + 1}, {odd + "; a(q)", len(odd) + 2},
	} {
		s := text(c.text)[:c.at+1]
		for _, more := range []string{"", "x", "\n", "\n\n", "(q) -> q", "\x00", s, text(least), strings.Repeat(" ", 5000)} {
			if _, p := format.Parse(s + more); p != (api.Problem{Code: api.ErrGrammar, At: c.at}) {
				t.Errorf("P4.7: Parse(%q) with %q behind: %v, want %d", s, more, p, c.at)
			}
		}
		wantProblem(t, text(c.text), c.at)
	}
}

func TestLayoutOneByOne(t *testing.T) {
	want := modelRead(text(odd))
	for _, s := range []string{
		odd + ";", odd + " ", odd + "\t", odd + ";;", odd + "; \t; ", ";" + odd, " ;\t;;" + odd,
		strings.ReplaceAll(odd, ";", ";;"), strings.ReplaceAll(odd, ";", ";\t;"), strings.ReplaceAll(odd, ";", "\t;"), strings.ReplaceAll(odd, ";", "  ; ;"),
		strings.ReplaceAll(odd, " -> ", "->"), strings.ReplaceAll(odd, " -> ", "\t->\t"), strings.ReplaceAll(odd, "->", "   ->   "),
		strings.ReplaceAll(odd, " a:", "\t \ta:"), strings.ReplaceAll(odd, "Automaton A", "Automaton\t\tA"), strings.ReplaceAll(odd, "States r q", "States\tr\tq"),
		strings.ReplaceAll(odd, ";", strings.Repeat(" ", 70000)+";"+strings.Repeat("\t\n", 70000)),
	} {
		f, p := format.Parse(text(s))
		if p != (api.Problem{}) || !same(f, want) {
			t.Errorf("P4.7: Parse(%.100q) = %v, %v", s, f, p)
		}
	}
}

// TestValidOneByOne: each way for a content not to be, alone.
func TestValidOneByOne(t *testing.T) {
	good, _ := format.Parse(text(odd))
	good.Final = nil
	wantGood(t, good)
	for i, change := range []func(*api.File){
		func(f *api.File) { f.Title = "" },
		func(f *api.File) { f.Title = "a b" },
		func(f *api.File) { f.Title = letters(17) },
		func(f *api.File) { f.Ops[1].Arity = 2 },
		func(f *api.File) { f.Ops = append(f.Ops, api.Op{Name: "x", Arity: -1}) },
		func(f *api.File) { f.Ops = append(f.Ops, api.Op{Name: "x", Arity: 2}) },
		func(f *api.File) { f.Ops = append(f.Ops, api.Op{Name: "x", Arity: math.MaxInt}) },
		func(f *api.File) { f.Ops = append(f.Ops, api.Op{Name: "x", Arity: math.MinInt}) },
		func(f *api.File) { f.Ops = append(f.Ops, api.Op{Name: ""}) },
		func(f *api.File) { f.Ops = append(f.Ops, api.Op{Name: "x:0", Arity: 1}) },
		func(f *api.File) { f.Ops = append(f.Ops, api.Op{Name: letters(17), Arity: 1}) },
		func(f *api.File) { f.Ops = append(f.Ops, f.Ops[0]) },
		func(f *api.File) { f.Ops = append(f.Ops, f.Ops[1]) },
		func(f *api.File) { f.Ops = f.Ops[1:]; f.Ops[1].Name = "c" },
		func(f *api.File) { f.States = append(f.States, "q") },
		func(f *api.File) { f.States = append(f.States, "") },
		func(f *api.File) { f.States = append(f.States, "é") },
		func(f *api.File) { f.States = append(f.States, letters(17)) },
		func(f *api.File) { f.Final = []string{"r", "q"} },
		func(f *api.File) { f.Final = []string{"q", "q"} },
		func(f *api.File) { f.Final = []string{"q", "r", "r", "s"} },
		func(f *api.File) { f.Final = []string{"x"} },
		func(f *api.File) { f.Final = []string{""} },
		func(f *api.File) { f.Final = []string{"a b"} },
		func(f *api.File) { f.Rules[0].Op = "x" },
		func(f *api.File) { f.Rules[0].Op = "" },
		func(f *api.File) { f.Rules[1].Op = "b" },
		func(f *api.File) { f.Ops[0].Name = "c"; f.Rules[0].Op = "a" },
		func(f *api.File) { f.Rules[0].From = "x" },
		func(f *api.File) { f.Rules[0].From = "q " },
		func(f *api.File) { f.Rules[0].To = "x" },
		func(f *api.File) { f.Rules[0].To = "" },
		func(f *api.File) { f.Rules[1].To = "" },
		func(f *api.File) { f.Rules = append(f.Rules, f.Rules[0]) },
		func(f *api.File) { f.Rules = append(f.Rules, f.Rules[1]) },
		func(f *api.File) { f.States = nil },
		func(f *api.File) { f.Ops = nil },
	} {
		f := clone(good)
		change(&f)
		if mayBe(f) {
			t.Fatalf("row %d: the test's own content %v may be", i, f)
		}
		wantNone(t, f)
	}
}

// TestValidDrawn holds drawn contents, about as many that may be as not, against the model.
func TestValidDrawn(t *testing.T) {
	r := rand.New(rand.NewPCG(4, 3))
	good := 0
	for i := range 30000 {
		pool := []string{"a", "b", "q", "", "a b"}
		if i%4 > 0 {
			pool = pool[:3]
		}
		f := drawn(r, pool)
		if i%2 > 0 {
			f = meant(f)
			spoil(r, &f)
		}
		if mayBe(f) {
			good++
			wantGood(t, f)
		} else {
			wantNone(t, f)
		}
		symbols := 0
		for _, op := range f.Ops {
			if op.Arity == 1 {
				symbols++
			}
		}
		if a, b, c := format.Count(f); a != len(f.States) || b != symbols || c != len(f.Rules) {
			t.Fatalf("P4.2: Count(%v) = %d, %d, %d", f, a, b, c)
		}
	}
	if good < 3000 || good > 27000 {
		t.Errorf("%d contents may be", good)
	}
}

// spoil takes something out of a content or changes two places about, or leaves it.
func spoil(r *rand.Rand, f *api.File) {
	cut := func(n int) (int, bool) { return r.IntN(n + 1), n > 0 }
	switch r.IntN(6) {
	case 0:
		if i, ok := cut(len(f.Ops)); ok && i < len(f.Ops) {
			f.Ops = slices.Delete(f.Ops, i, i+1)
		}
	case 1:
		if i, ok := cut(len(f.States)); ok && i < len(f.States) {
			f.States = slices.Delete(f.States, i, i+1)
		}
	case 2:
		r.Shuffle(len(f.Final), func(i, j int) { f.Final[i], f.Final[j] = f.Final[j], f.Final[i] })
	case 3:
		r.Shuffle(len(f.Rules), func(i, j int) { f.Rules[i], f.Rules[j] = f.Rules[j], f.Rules[i] })
	case 4:
		if i, ok := cut(len(f.Ops)); ok && i < len(f.Ops) {
			f.Ops[i].Arity = r.IntN(4) - 1
		}
	}
}

func TestCount(t *testing.T) {
	for _, c := range []struct {
		f                      api.File
		states, symbols, rules int
	}{
		{api.File{}, 0, 0, 0},
		{api.File{States: []string{"", ""}, Final: []string{"x"}}, 2, 0, 0},
		{api.File{Ops: []api.Op{{Arity: 1}, {Arity: 1}, {Arity: 0}, {Arity: 2}, {Arity: -1}, {Name: "a", Arity: 1}}}, 0, 3, 0},
		{api.File{Rules: make([]api.Rule, 7)}, 0, 0, 7},
	} {
		if a, b, n := format.Count(c.f); a != c.states || b != c.symbols || n != c.rules {
			t.Errorf("P4.2: Count(%v) = %d, %d, %d", c.f, a, b, n)
		}
	}
}

func numbered(head string, n int) []string {
	list := make([]string, n)
	for i := range list {
		list[i] = fmt.Sprint(head, i)
	}
	return list
}

// crowd is a content with so many states, symbols and edges, and three ops that make the first two states start states.
func crowd(states, symbols, edges int) api.File {
	f := api.File{Title: "A", Ops: []api.Op{{Name: "x"}, {Name: "y"}, {Name: "s0"}}, States: numbered("q", states)}
	for _, s := range numbered("s", symbols) {
		f.Ops = append(f.Ops, api.Op{Name: s, Arity: 1})
	}
	if states > 1 {
		f.Rules = []api.Rule{{Op: "y", To: "q1"}, {Op: "x", To: "q0"}, {Op: "s0", To: "q1"}, {Op: "x", To: "q1"}}
	}
	for i := range edges {
		f.Rules = append(f.Rules, api.Rule{Op: fmt.Sprint("s", i%symbols), From: fmt.Sprint("q", i/symbols/states), To: fmt.Sprint("q", i/symbols%states)})
	}
	return f
}

func TestAutoLimits(t *testing.T) {
	for _, c := range []struct {
		states, symbols, edges int
		e                      api.Errno
	}{
		{0, 0, 0, api.OK}, {4096, 0, 0, api.OK}, {4097, 0, 0, api.ErrSize}, {0, 128, 0, api.OK}, {0, 129, 0, api.ErrSize}, {300, 2, 65536, api.OK}, {300, 2, 65537, api.ErrSize},
		{4096, 128, 65536, api.OK}, {4097, 129, 65537, api.ErrSize}, {4097, 1, 65537, api.ErrSize}, {10000, 500, 100000, api.ErrSize},
	} {
		f := crowd(c.states, c.symbols, c.edges)
		if !format.Valid(f) {
			t.Fatalf("P4.2: %v: not valid", c)
		}
		a, states, symbols, e := format.Auto(f)
		if e != c.e {
			t.Errorf("P4.4: %v: %d", c, e)
		}
		if e == api.OK && (a.States != c.states || a.Symbols != c.symbols || len(a.Edges) != c.edges || !slices.Equal(states, f.States) || !slices.Equal(symbols, numbered("s", c.symbols))) {
			t.Errorf("P4.4: %v: %d states, %d symbols, %d edges", c, a.States, a.Symbols, len(a.Edges))
		}
		if e == api.OK && c.states > 1 && !slices.Equal(a.Start, []int{0, 1}) {
			t.Errorf("P4.4: %v: Start %v", c, a.Start)
		}
		if e != api.OK && (a.States != 0 || a.Symbols != 0 || a.Start != nil || a.Final != nil || a.Edges != nil || states != nil || symbols != nil) {
			t.Errorf("P4.4: %v: something beside the error", c)
		}
		s, e := format.Print(f)
		if g, p := format.Parse(s); e != api.OK || p != (api.Problem{}) || !same(f, g) {
			t.Errorf("P4.6: %v: not there and back: %d, %v", c, e, p)
		}
		f.Final = []string{"x"}
		if _, _, _, e := format.Auto(f); e != api.ErrFile {
			t.Errorf("P4.4: %v with a wrong final state: %d", c, e)
		}
	}
}

func TestFromErrors(t *testing.T) {
	one := api.Auto{States: 1, Symbols: 1, Start: []int{0, 0}, Final: []int{0}, Edges: []api.Edge{{}, {}}}
	two := api.Auto{States: 2, Symbols: 2}
	q, x := []string{"q"}, []string{"x"}
	for i, c := range []struct {
		a               api.Auto
		states, symbols []string
		title           string
		e               api.Errno
	}{
		{one, q, x, "A", api.OK}, {api.Auto{}, nil, nil, "A", api.OK}, {api.Auto{}, []string{}, []string{}, letters(16), api.OK},
		{one, []string{"start"}, []string{"start"}, "start", api.OK}, {one, []string{letters(16)}, []string{"'"}, "0", api.OK}, {two, []string{"x", "y"}, []string{"y", "x"}, "x", api.OK},
		{one, []string{"q", "q"}, x, "A", api.ErrArg}, {one, []string{"q", "r"}, x, "A", api.ErrArg}, {one, nil, x, "A", api.ErrArg}, {one, q, nil, "A", api.ErrArg}, {one, q, []string{"x", "x"}, "A", api.ErrArg}, {one, []string{"-", "-"}, []string{"-", "-"}, "-", api.ErrArg}, {api.Auto{}, q, nil, "A", api.ErrArg}, {api.Auto{}, nil, x, "A", api.ErrArg},
		{one, []string{"q r"}, x, "A", api.ErrName}, {one, []string{"a b"}, x, "A", api.ErrName}, {one, []string{""}, x, "A", api.ErrName}, {one, q, []string{""}, "A", api.ErrName}, {one, q, []string{letters(17)}, "A", api.ErrName}, {one, q, x, "", api.ErrName}, {one, q, x, "a b", api.ErrName}, {one, q, x, letters(17), api.ErrName},
		{two, []string{"q", "q"}, []string{"x", "y"}, "a b", api.ErrName}, {two, []string{"q", "q"}, []string{"x", "-"}, "A", api.ErrName}, {two, []string{"q", "-"}, []string{"x", "x"}, "A", api.ErrName}, {two, []string{"-", "-"}, []string{"x", "y"}, "A", api.ErrName},
		{two, []string{"q", "q"}, []string{"x", "y"}, "A", api.ErrTwice}, {two, []string{"q", "r"}, []string{"x", "x"}, "A", api.ErrTwice}, {two, []string{"q", "q"}, []string{"x", "x"}, "A", api.ErrTwice}, {two, []string{"x", "q"}, []string{"x", "x"}, "A", api.ErrTwice},
		{api.Auto{States: -1}, nil, nil, "A", api.ErrAuto}, {api.Auto{Symbols: -1}, nil, nil, "A", api.ErrAuto}, {api.Auto{States: 4097}, numbered("q", 4097), nil, "A", api.ErrAuto}, {api.Auto{States: 4096}, numbered("q", 4096), nil, "A", api.OK}, {api.Auto{Symbols: 129}, nil, numbered("x", 129), "A", api.ErrAuto}, {api.Auto{Symbols: 128}, nil, numbered("x", 128), "A", api.OK},
		{api.Auto{States: math.MaxInt}, nil, nil, "A", api.ErrAuto}, {api.Auto{States: math.MinInt}, nil, nil, "A", api.ErrAuto}, {api.Auto{Symbols: math.MaxInt}, nil, nil, "A", api.ErrAuto}, {api.Auto{Symbols: math.MinInt}, nil, nil, "A", api.ErrAuto},
		{api.Auto{States: 1, Start: []int{1}}, q, nil, "A", api.ErrAuto}, {api.Auto{States: 1, Start: []int{0, -1}}, q, nil, "A", api.ErrAuto}, {api.Auto{States: 1, Final: []int{0, 1}}, q, nil, "A", api.ErrAuto}, {api.Auto{States: 1, Final: []int{-1}}, q, nil, "A", api.ErrAuto}, {api.Auto{Start: []int{0}}, nil, nil, "A", api.ErrAuto},
		{api.Auto{States: 1, Symbols: 1, Edges: []api.Edge{{}, {From: 1}}}, q, x, "A", api.ErrAuto}, {api.Auto{States: 1, Symbols: 1, Edges: []api.Edge{{From: -1}}}, q, x, "A", api.ErrAuto}, {api.Auto{States: 1, Symbols: 1, Edges: []api.Edge{{Sym: 1}}}, q, x, "A", api.ErrAuto}, {api.Auto{States: 1, Symbols: 1, Edges: []api.Edge{{Sym: -1}}}, q, x, "A", api.ErrAuto}, {api.Auto{States: 1, Symbols: 1, Edges: []api.Edge{{To: 1}}}, q, x, "A", api.ErrAuto}, {api.Auto{States: 1, Symbols: 1, Edges: []api.Edge{{To: -1}}}, q, x, "A", api.ErrAuto}, {api.Auto{States: 1, Edges: []api.Edge{{}}}, q, nil, "A", api.ErrAuto},
		{api.Auto{States: 2, Symbols: 1, Edges: []api.Edge{{Sym: 1}}}, []string{"q", "q"}, []string{"-"}, "", api.ErrAuto}, {api.Auto{States: 1, Symbols: 3, Edges: []api.Edge{{To: 2}}}, nil, nil, "", api.ErrAuto},
		{api.Auto{States: 1, Symbols: 1, Edges: make([]api.Edge, 65536)}, q, x, "A", api.OK}, {api.Auto{States: 1, Symbols: 1, Edges: make([]api.Edge, 65537)}, q, x, "A", api.ErrAuto}, {api.Auto{States: 1, Start: make([]int, 70000), Final: make([]int, 70000)}, q, nil, "A", api.OK},
	} {
		f, e := format.From(c.a, c.states, c.symbols, c.title)
		if e != c.e {
			t.Errorf("P4.5: row %d: %d, want %d", i, e, c.e)
		}
		if e != api.OK && (f.Title != "" || f.Ops != nil || f.States != nil || f.Final != nil || f.Rules != nil) {
			t.Errorf("P4.5: row %d: %v beside the error", i, f)
		}
		if e == api.OK && (f.Title != c.title || !format.Valid(f)) {
			t.Errorf("P4.5: row %d: %v", i, f)
		}
	}
}

// drawnAuto draws an automaton, its lists in no order and with doubles.
func drawnAuto(r *rand.Rand) api.Auto {
	a := api.Auto{States: r.IntN(6), Symbols: r.IntN(4)}
	if a.States == 0 {
		return a
	}
	for range r.IntN(6) {
		a.Start = append(a.Start, r.IntN(a.States))
	}
	for range r.IntN(6) {
		a.Final = append(a.Final, r.IntN(a.States))
	}
	for range r.IntN(20) * min(a.Symbols, 1) {
		a.Edges = append(a.Edges, api.Edge{From: r.IntN(a.States), Sym: r.IntN(a.Symbols), To: r.IntN(a.States)})
	}
	return a
}

func TestFromDrawn(t *testing.T) {
	r := rand.New(rand.NewPCG(4, 4))
	for range 10000 {
		a := drawnAuto(r)
		b := testkit.InOrder(a)
		states, symbols := numbered("q", a.States), numbered("start"[:r.IntN(6)], a.Symbols)
		if a.States > 0 {
			states[0] = "start"
		}
		if a.Symbols > 0 {
			symbols[0] = "start"
		}
		r.Shuffle(len(states), func(i, j int) { states[i], states[j] = states[j], states[i] })
		r.Shuffle(len(symbols), func(i, j int) { symbols[i], symbols[j] = symbols[j], symbols[i] })
		want := api.File{Title: "T", Ops: []api.Op{{Name: "start"}}, States: states}
		for _, s := range symbols {
			want.Ops = append(want.Ops, api.Op{Name: s, Arity: 1})
		}
		for _, q := range b.Start {
			want.Rules = append(want.Rules, api.Rule{Op: "start", To: states[q]})
		}
		for _, q := range b.Final {
			want.Final = append(want.Final, states[q])
		}
		for _, e := range b.Edges {
			want.Rules = append(want.Rules, api.Rule{Op: symbols[e.Sym], From: states[e.From], To: states[e.To]})
		}
		f, e := format.From(a, states, symbols, "T")
		if e != api.OK || !same(f, want) {
			t.Fatalf("P4.5: From(%v, %q, %q) = %v, %d, want %v", a, states, symbols, f, e, want)
		}
		wantGood(t, f)
		back, p, s, e := format.Auto(f)
		if e != api.OK || !testkit.SameAuto(back, b) || !slices.Equal(p, states) || !slices.Equal(s, symbols) {
			t.Fatalf("P4.6: Auto(From(%v)) = %v, %q, %q, %d", a, back, p, s, e)
		}
	}
}

func scribbleFile(f api.File) {
	testkit.Scribble(f.Ops, api.Op{Name: "?"})
	testkit.Scribble(f.States, "?")
	testkit.Scribble(f.Final, "?")
	testkit.Scribble(f.Rules, api.Rule{Op: "?"})
}

// TestFileHandedIn: contents handed in stay as they were, and no answer shares memory with them or with another.
func TestFileHandedIn(t *testing.T) {
	good, _ := format.Parse(text(odd))
	bad := clone(good)
	bad.Final = []string{"r", "q"}
	for _, content := range []api.File{good, bad} {
		f, unchanged := testkit.RoomyFile(content)
		format.Valid(f)
		format.Count(f)
		format.Print(f)
		a, states, symbols, _ := format.Auto(f)
		want := slices.Clone(symbols)
		testkit.Scribble(states, "?")
		if !slices.Equal(symbols, want) {
			t.Errorf("P4.8: the two lists of names share memory")
		}
		testkit.Scribble(symbols, "?")
		testkit.Scribble(a.Start, -9)
		if slices.Contains(a.Final, -9) {
			t.Errorf("P4.8: Start and Final share memory")
		}
		testkit.Scribble(a.Final, -8)
		testkit.Scribble(a.Edges, api.Edge{From: -9})
		if !unchanged() {
			t.Errorf("P4.8: %v was changed", content)
		}
		b, p, s, e := format.Auto(f)
		if again, q, u, g := format.Auto(content); !testkit.SameAuto(b, again) || !slices.Equal(p, q) || !slices.Equal(s, u) || e != g || slices.Contains(p, "?") || slices.Contains(s, "?") {
			t.Errorf("P4.8: another answer afterwards: %v, %q, %q, %d", b, p, s, e)
		}
	}
}

func TestAutoHandedIn(t *testing.T) {
	start, a := testkit.Roomy([]int{2, 0, 2}, 1)
	final, b := testkit.Roomy([]int{2, 1, 2}, 0)
	edges, c := testkit.Roomy([]api.Edge{{From: 2, To: 1}, {From: 1}, {From: 2, To: 1}}, api.Edge{})
	states, d := testkit.Roomy([]string{"p", "q", "r"}, "room")
	symbols, e := testkit.Roomy([]string{"x"}, "room")
	auto := api.Auto{States: 3, Symbols: 1, Start: start, Final: final, Edges: edges}
	want := text("Ops start:0 x:1;Automaton A;States p q r;Final States q r;Transitions;start() -> p;start() -> r;x(q) -> p;x(r) -> q;")
	for range 2 {
		f, err := format.From(auto, states, symbols, "A")
		if s, _ := format.Print(f); s != want || err != api.OK {
			t.Errorf("P4.5: %q, %d", s, err)
		}
		testkit.Scribble(f.States, "?")
		if slices.Contains(f.Final, "?") {
			t.Errorf("P4.8: States and Final share memory")
		}
		scribbleFile(f)
		format.From(auto, states, symbols, "-")
		format.From(auto, states, states, "A")
		if !a() || !b() || !c() || !d() || !e() {
			t.Fatalf("P4.8: what was handed in was changed")
		}
	}
}

func TestParseNewMemory(t *testing.T) {
	s := text(odd)
	f, _ := format.Parse(s)
	want := clone(f)
	testkit.Scribble(f.Final, "?")
	if slices.Contains(f.States, "?") {
		t.Errorf("P4.8: Final and States share memory")
	}
	scribbleFile(f)
	wantContent(t, s, want)
	g, _ := format.Parse(s)
	kept := []string{g.Title}
	for _, r := range g.Rules {
		kept = append(kept, r.Op, r.From, r.To)
	}
	for _, op := range g.Ops {
		kept = append(kept, op.Name)
	}
	for _, name := range slices.Concat(kept, g.States, g.Final) {
		at, from := uintptr(unsafe.Pointer(unsafe.StringData(name))), uintptr(unsafe.Pointer(unsafe.StringData(s)))
		if name != "" && from <= at && at < from+uintptr(len(s)) {
			t.Errorf("P4.8: the name %q is a piece of the text handed in", name)
		}
	}
}

// TestNoPanic: texts and contents of all kinds, and long ones, are answered.
func TestNoPanic(t *testing.T) {
	r := rand.New(rand.NewPCG(4, 5))
	for range 3000 {
		b := make([]byte, r.IntN(40))
		for i := range b {
			b[i] = byte(r.IntN(256))
		}
		for _, s := range []string{string(b), text(least) + string(b), text(least) + "\n" + string(b), "Ops " + string(b)} {
			at, e := grammar.Check(s)
			if _, p := format.Parse(s); e != api.OK && p != (api.Problem{Code: e, At: at}) {
				t.Fatalf("P4.1: Parse(%q): %v", s, p)
			}
		}
	}
	long := text(least) + "\n" + strings.Repeat("a(q) -> p\n\n \t\n", 100000)
	wantContent(t, long, api.File{Title: "A", Ops: []api.Op{{Name: "a", Arity: 1}}, States: []string{"q", "p"}, Rules: []api.Rule{{Op: "a", From: "q", To: "p"}}})
	wantProblem(t, long+"#", len(long))
	wantNone(t, api.File{})
	wantNone(t, api.File{Title: strings.Repeat("n", 1<<20), States: []string{strings.Repeat("q", 1<<20)}})
}
