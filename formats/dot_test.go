package formats_test

import (
	"math/rand/v2"
	"strings"
	"testing"

	"wordset/api"
	"wordset/formats"
)

func wantDot(t *testing.T, f api.File, want string) {
	t.Helper()
	if s, e := formats.Dot(f); s != want || e != api.OK {
		t.Errorf("P5.5: Dot(%v) = %q, %d, want %q", f, s, e, want)
	}
}

func TestDotExample(t *testing.T) {
	want := strings.Join([]string{
		`digraph "x" {`, `  rankdir=LR;`, `  "p" [shape=doublecircle];`, `  "->p" [shape=point];`, `  "->p" -> "p";`, `  "p" -> "p" [label="a,b"];`, `}`, ``,
	}, "\n")
	for _, ops := range []string{"s:0 a:1 b:1", "a:1 s:0 b:1", "a:1 a:0 b:1 b:0 s:0"} {
		for _, rules := range []string{"s()->p;a(p)->p;b(p)->p", "b(p)->p;a(p)->p;s()->p"} {
			wantDot(t, content(t, "Ops "+ops+";Automaton x;States p;Final States p;Transitions;"+rules), want)
		}
	}
}

func TestDotEdges(t *testing.T) {
	wantDot(t, content(t, "Ops;Automaton A;States;Final States;Transitions"), "digraph \"A\" {\n  rankdir=LR;\n}\n")
	wantDot(t, content(t, "Ops a:1;Automaton A;States q p;Final States;Transitions"), "digraph \"A\" {\n  rankdir=LR;\n  \"q\" [shape=circle];\n  \"p\" [shape=circle];\n}\n")
	// What stands in no rule, starts told by two ops, pairs in the order of states and not of rules, both ways between two states.
	f := content(t, "Ops s:0 b:1 t:0 a:1 idle:1;Automaton A';States r q p o;Final States q o;Transitions;a(p)->q;t()->p;s()->r;b(p)->q;s()->p;a(q)->p;a(r)->p;a(p)->r;a(r)->r;b(r)->r")
	wantDot(t, f, strings.Join([]string{
		`digraph "A'" {`, `  rankdir=LR;`,
		`  "r" [shape=circle];`, `  "q" [shape=doublecircle];`, `  "p" [shape=circle];`, `  "o" [shape=doublecircle];`,
		`  "->r" [shape=point];`, `  "->r" -> "r";`, `  "->p" [shape=point];`, `  "->p" -> "p";`,
		`  "r" -> "r" [label="b,a"];`, `  "r" -> "p" [label="a"];`, `  "q" -> "p" [label="a"];`, `  "p" -> "r" [label="a"];`, `  "p" -> "q" [label="b,a"];`,
		`}`, ``,
	}, "\n"))
}

func TestDotDrawn(t *testing.T) {
	r := rand.New(rand.NewPCG(5, 11))
	for range 10000 {
		f := drawnContent(r)
		wantDot(t, f, modelDot(f))
		pairs := map[[2]string]int{}
		for _, r := range f.Rules {
			if r.From != "" {
				pairs[[2]string{r.From, r.To}]++
			}
		}
		s, _ := formats.Dot(f)
		if n := strings.Count(s, "\n"); n != len(f.States)+2*len(startsOf(f))+len(pairs)+3 || !strings.HasSuffix(s, "}\n") {
			t.Fatalf("P5.9: Dot(%v) has %d lines: %q", f, n, s)
		}
	}
}

func TestDotRefuses(t *testing.T) {
	for i, change := range []func(*api.File){
		func(f *api.File) { *f = api.File{} },
		func(f *api.File) { f.Title = "-" },
		func(f *api.File) { f.Title = letters(17) },
		func(f *api.File) { f.Ops[0].Arity = -1 },
		func(f *api.File) { f.Ops = f.Ops[1:] },
		func(f *api.File) { f.States = append(f.States, `"`) },
		func(f *api.File) { f.States = f.States[1:] },
		func(f *api.File) { f.Final = []string{"q", "p"} },
		func(f *api.File) { f.Final = []string{"x"} },
		func(f *api.File) { f.Rules[2].To = "x" },
		func(f *api.File) { f.Rules = append(f.Rules, f.Rules[2]) },
	} {
		f := content(t, fileA)
		change(&f)
		if s, e := formats.Dot(f); s != "" || e != api.ErrFile {
			t.Errorf("P5.5: row %d: Dot(%v) = %q, %d, want ErrFile alone", i, f, s, e)
		}
	}
}
