package formats_test

import (
	"math/rand/v2"
	"slices"
	"strings"
	"testing"

	"wordset/api"
	"wordset/format"
	"wordset/formats"
	"wordset/testkit"
)

// fileA is the file A of DOC.md.
const fileA = "Ops start:0 a:1 b:1;Automaton A;States p q;Final States q;Transitions;start() -> p;a(p) -> p;b(p) -> q;"

func content(t *testing.T, s string) api.File {
	t.Helper()
	f, p := format.Parse(text(s))
	if p != (api.Problem{}) {
		t.Fatalf("the test's own text %q is no file: %v", s, p)
	}
	return f
}

func wantBA(t *testing.T, f api.File, want string) {
	t.Helper()
	if s, e := formats.BA(f); s != want || e != api.OK {
		t.Errorf("P5.3: BA(%v) = %q, %d, want %q", f, s, e, want)
	}
}

func wantNoBA(t *testing.T, f api.File, want api.Errno) {
	t.Helper()
	if s, e := formats.BA(f); s != "" || e != want {
		t.Errorf("P5.3: BA(%v) = %q, %d, want %d alone", f, s, e, want)
	}
}

func wantRead(t *testing.T, s string, want api.File) {
	t.Helper()
	if f, e, n := formats.ReadBA(s); e != api.OK || n != 0 || !same(f, want) {
		t.Errorf("P5.4: ReadBA(%.200q) = %v, %d, %d, want %v", s, f, e, n, want)
	}
}

func wantWrong(t *testing.T, s string, line int) {
	t.Helper()
	if f, e, n := formats.ReadBA(s); e != api.ErrForm || n != line || !isNothing(f) {
		t.Errorf("P5.4: ReadBA(%.200q) = %v, %d, %d, want line %d", s, f, e, n, line)
	}
}

// wantTextAsModel holds ReadBA of a text against the model, and tells whether the text is of the BA form.
func wantTextAsModel(t *testing.T, s string) bool {
	t.Helper()
	if line := modelWrong(s); line > 0 {
		wantWrong(t, s, line)
		return false
	}
	f := modelContent(s)
	wantRead(t, s, f)
	if !format.Valid(f) {
		t.Errorf("P5.8: what ReadBA(%q) tells may not be: %v", s, f)
	}
	again, e := formats.BA(f)
	if got, want := slices.Sorted(slices.Values(linesOf(again))), slices.Sorted(slices.Values(linesOf(s))); e != api.OK || !slices.Equal(got, want) {
		t.Errorf("P5.7: BA of what ReadBA(%q) tells: %q, %d", s, again, e)
	}
	if strings.HasSuffix(s, "\n") && strings.HasSuffix(s, strings.Join(append([]string{""}, f.Final...), "\n")+"\n") && again != s {
		t.Errorf("P5.7: BA of what ReadBA(%q) tells is another text: %q", s, again)
	}
	return true
}

func TestBAExamples(t *testing.T) {
	a := content(t, fileA)
	wantBA(t, a, text("p;a,p->p;b,p->q;q;"))
	a.Title = "ba"
	wantRead(t, text("p;a,p->p;b,p->q;q;"), a)
	start := []api.Op{{Name: "start"}}
	rules := []api.Rule{{Op: "start", To: "p"}}
	wantRead(t, text("p;,;"), api.File{Title: "ba", Ops: start, States: []string{"p"}, Rules: rules})
	wantRead(t, text("p;,;p;q;"), api.File{Title: "ba", Ops: start, States: []string{"p", "q"}, Final: []string{"p", "q"}, Rules: rules})
	for s, line := range map[string]int{"": 1, "p;": 2, "a,p->q": 1, "p;p": 2, "p;,;a,p->q": 3, "p;a,p->q;a,p->q": 3, "p;;": 2, "p;a,p ->q": 2} {
		wantWrong(t, text(s), line)
	}
}

// TestBAEdges: which lines there are, and in what order.
func TestBAEdges(t *testing.T) {
	for file, want := range map[string]string{
		"Ops s:0;Automaton A;States p;Final States;Transitions;s()->p":                                                      "p;,;",
		"Ops s:0;Automaton A;States p q;Final States q;Transitions;s()->p":                                                  "p;,;q;",
		"Ops s:0;Automaton A;States q p;Final States p q;Transitions;s()->p":                                                "p;,;q;p;",
		"Ops s:0;Automaton A;States r q p;Final States;Transitions;s()->p;s()->q;s()->r":                                    "r;q;p;,;",
		"Ops s:0 t:0 unused:0;Automaton A;States p;Final States;Transitions;t()->p;s()->p":                                  "p;,;",
		"Ops a:1 s:0;Automaton A;States q p;Final States;Transitions;a(p)->q;s()->q;a(q)->p;s()->p;a(p)->p":                 "q;p;a,p->q;a,q->p;a,p->p;",
		"Ops b:1 a:1 a:0;Automaton A;States p;Final States p;Transitions;a(p)->p;b(p)->p;a()->p":                            "p;a,p->p;b,p->p;p;",
		"Ops start:1 s:0;Automaton start;States start;Final States start;Transitions;s()->start;start(start)->start":        "start;start,start->start;start;",
		"Ops s:0 a:1;Automaton A;States p q r;Final States;Transitions;s()->p;a(r)->p;a(p)->q":                              "p;a,r->p;a,p->q;",
		"Ops 0:0 ':1;Automaton _;States 0 ' _;Final States 0 ';Transitions;0()->0;'(_)->0;":                                 "0;',_->0;0;';",
		"Ops s:0;Automaton A;States " + letters(16) + ";Final States;Transitions;" + "s()->" + letters(16) + ";s(n)->n;;;;": letters(16) + ";s,n->n;",
	} {
		f := content(t, file)
		wantBA(t, f, text(want))
		if model, ok := modelBA(f); !ok || model != text(want) {
			t.Errorf("the test's own model tells %q, not %q", model, want)
		}
	}
}

// TestBAShape: each thing that has no place in the form, alone; and a content that may not be is refused for that first.
func TestBAShape(t *testing.T) {
	for _, file := range []string{
		"Ops;Automaton A;States;Final States;Transitions",
		"Ops s:0;Automaton A;States;Final States;Transitions",
		"Ops s:0;Automaton A;States p;Final States p;Transitions",
		"Ops s:0 a:1;Automaton A;States p;Final States p;Transitions;a(p)->p",
		"Ops s:0;Automaton A;States p q;Final States p;Transitions;s()->p",
		"Ops s:0 a:1;Automaton A;States p q;Final States p;Transitions;s()->p;a(p)->p",
		"Ops s:0 a:1;Automaton A;States p;Final States p;Transitions;s()->p",
		"Ops s:0 s:1;Automaton A;States p;Final States p;Transitions;s()->p",
		"Ops s:0 a:1 b:1;Automaton A;States p;Final States p;Transitions;s()->p;a(p)->p",
		"Ops s:0 b:0 a:1 b:1;Automaton A;States p;Final States p;Transitions;s()->p;b()->p;a(p)->p",
		"Ops s:0 a:1 p:1;Automaton A;States p;Final States p;Transitions;s()->p;a(p)->p",
		"Ops s:0 a:1;Automaton A;States p a;Final States p;Transitions;s()->p;a(p)->p",
		"Ops s:0;Automaton A;States p s;Final States p;Transitions;s()->p",
	} {
		f := content(t, file)
		wantNoBA(t, f, api.ErrShape)
		f.Title = "-"
		wantNoBA(t, f, api.ErrFile)
	}
	for i, change := range []func(*api.File){
		func(f *api.File) { f.Title = "" },
		func(f *api.File) { f.Ops[0].Arity = 2 },
		func(f *api.File) { f.Ops = append(f.Ops, f.Ops[0]) },
		func(f *api.File) { f.States = append(f.States, "p") },
		func(f *api.File) { f.States[0] = "p " },
		func(f *api.File) { f.Final = []string{"q", "q"} },
		func(f *api.File) { f.Final = []string{"q", "p"} },
		func(f *api.File) { f.Final = []string{"r"} },
		func(f *api.File) { f.Rules = append(f.Rules, f.Rules[0]) },
		func(f *api.File) { f.Rules[0].Op = "c" },
		func(f *api.File) { f.Rules[1].From = "" },
		func(f *api.File) { f.Rules[1].To = "r" },
	} {
		f := content(t, fileA)
		change(&f)
		if format.Valid(f) {
			t.Fatalf("row %d: the test's own content %v may be", i, f)
		}
		wantNoBA(t, f, api.ErrFile)
	}
	wantNoBA(t, api.File{}, api.ErrFile)
}

// wantThereAndBack: what BA wrote of a content tells the same names, starts, finals and edges.
func wantThereAndBack(t *testing.T, f api.File, s string) {
	t.Helper()
	g, e, n := formats.ReadBA(s)
	if e != api.OK || n != 0 {
		t.Fatalf("P5.7: ReadBA(%q): %d in line %d", s, e, n)
	}
	for i, lists := range [][2][]string{{f.States, g.States}, {symbolsOf(f), symbolsOf(g)}, {startsOf(f), startsOf(g)}, {f.Final, g.Final}, {edgesOf(f), edgesOf(g)}} {
		if a, b := slices.Sorted(slices.Values(lists[0])), slices.Sorted(slices.Values(lists[1])); !slices.Equal(a, b) {
			t.Fatalf("P5.7: ReadBA(BA(%v)) = %v: list %d is another", f, g, i)
		}
	}
}

func TestBADrawn(t *testing.T) {
	r := rand.New(rand.NewPCG(5, 7))
	with := 0
	for range 20000 {
		f := drawnContent(r)
		if !format.Valid(f) {
			t.Fatalf("the test's own content %v may not be", f)
		}
		s, ok := modelBA(f)
		if !ok {
			wantNoBA(t, f, api.ErrShape)
			continue
		}
		with++
		wantBA(t, f, s)
		wantThereAndBack(t, f, s)
		wantTextAsModel(t, s)
	}
	if with < 2000 || with > 18000 {
		t.Errorf("%d contents had a BA form", with)
	}
}

// TestReadBAOneByOne: each reason to refuse a line, and what is no reason.
func TestReadBAOneByOne(t *testing.T) {
	long := letters(17)
	for s, line := range map[string]int{
		";": 1, ",": 1, ",;": 1, "p": 2, "p;q": 3, "p;q;": 3, " p": 1, "p ": 1, "p\r;,": 1, "p;\r": 2, "p q": 1, "é": 1, "\x00": 1, long: 1, "p;,;" + long: 3,
		"p;q;p": 3, "p;q;p;,": 3, "p;,;p;p": 4, "p;,;q;p;q": 5, "p;,;,": 3, "p;,;q;,": 4, "p;,;q;a,p->q": 4, "p;,; ": 3, "p;,;;": 3, "p;;,": 2, "p;,;q;;": 4,
		"p;a,p->q;,": 3, "p;a,p->q;b,p->q;a,p->q": 4, "p;a,p->q;r;a,q->q": 4, "p;a,p->q;r;r": 4, "p;a,p->q;;": 3, "p;a,p->q;r;,": 4,
		"p;a,p-q": 2, "p;a,p>q": 2, "p;a,p->": 2, "p;a,->q": 2, "p;,p->q": 2, "p;a,pq": 2, "p;a,": 2, "p;->": 2, "p;p->q": 2, "p;,,": 2, "p;, ": 2, "p; ,": 2,
		"p;a,p->q->r": 2, "p;a,b,p->q": 2, "p;a, p->q": 2, "p;a,p-> q": 2, "p;a,p->q ": 2, "p; a,p->q": 2, "p;a,p->q,": 2, "p;a,p->>q": 2, "p;a,p-->q": 2, "p;a:p->q": 2,
		"p;" + long + ",p->q": 2, "p;a," + long + "->q": 2, "p;a,p->" + long: 2, "p;a,p->q\r": 2, "p;a,p->q;q\t": 3,
	} {
		wantWrong(t, text(s), line)
		if got := modelWrong(text(s)); got != line {
			t.Errorf("the test's own model refuses %q at %d, not at %d", s, got, line)
		}
	}
	for _, s := range []string{
		"p;,", "p;,;", "p;,;p", "p;q;,;q;p", "p;a,p->q", "p;a,p->q;", "p;a,p->q;p", "p;a,p->q;b,p->q;a,q->p;a,p->p;q;p;", "p;a,q->r;s;r;q;p;", "start;start,start->start;start;",
		"0;',_->0;_", letters(16) + ";" + letters(16) + "," + letters(16) + "->n;",
	} {
		if !wantTextAsModel(t, text(s)) {
			t.Errorf("P5.4: ReadBA(%q) is refused", s)
		}
	}
}

func TestReadBAContent(t *testing.T) {
	ops := []api.Op{{Name: "start"}, {Name: "b", Arity: 1}, {Name: "start", Arity: 1}, {Name: "a", Arity: 1}}
	want := api.File{
		Title: "ba", Ops: ops, States: []string{"q", "p", "s", "r", "t", "z", "y"}, Final: []string{"q", "s", "z", "y"},
		Rules: []api.Rule{
			{Op: "start", To: "q"}, {Op: "start", To: "p"},
			{Op: "b", From: "s", To: "r"}, {Op: "start", From: "p", To: "t"}, {Op: "b", From: "p", To: "t"}, {Op: "a", From: "r", To: "r"},
		},
	}
	s := "q;p;b,s->r;start,p->t;b,p->t;a,r->r;z;s;y;q"
	wantRead(t, text(s), want)
	wantRead(t, text(s+";"), want)
	wantBA(t, want, text("q;p;b,s->r;start,p->t;b,p->t;a,r->r;q;s;z;y;"))
}

// TestReadBASequences: all short sequences of some lines, with and without the last line feed.
func TestReadBASequences(t *testing.T) {
	pool := []string{"p", "q", "a,p->q", "b,q->r", ",", "", "a,p->"}
	good := 0
	var walk func(lines []string)
	walk = func(lines []string) {
		s := strings.Join(lines, "\n")
		for _, s := range []string{s, s + "\n"} {
			if wantTextAsModel(t, s) {
				good++
			}
		}
		if t.Failed() || len(lines) == 6 || modelWrong(s) < len(lines) && modelWrong(s) > 0 {
			return
		}
		for _, line := range pool {
			walk(append(lines[:len(lines):len(lines)], line))
		}
	}
	walk(nil)
	if good < 100 {
		t.Errorf("only %d of the texts were of the form", good)
	}
}

// drawnBA draws a text of the BA form, its finals in no order.
func drawnBA(r *rand.Rand) string {
	pool := []string{"p", "q", "r'", "start", letters(16), "0"}
	name := func() string { return pool[r.IntN(len(pool))] }
	var starts, edges, finals []string
	for range 1 + r.IntN(4) {
		starts = once(starts, name())
	}
	for range r.IntN(6) {
		edges = once(edges, name()+","+name()+"->"+name())
	}
	for range r.IntN(5) {
		finals = once(finals, name())
	}
	if edges == nil {
		edges = []string{","}
	}
	return strings.Join(slices.Concat(starts, edges, finals), "\n") + []string{"", "\n"}[r.IntN(2)]
}

func TestReadBADrawn(t *testing.T) {
	r := rand.New(rand.NewPCG(5, 8))
	good := 0
	for range 10000 {
		s := drawnBA(r)
		if !wantTextAsModel(t, s) {
			t.Fatalf("P5.4: ReadBA(%q) is refused", s)
		}
		if wantTextAsModel(t, changed(r, s, "pq0',->\n\n \r\x00\xe9")) {
			good++
		}
		lines := linesOf(s)
		r.Shuffle(len(lines), func(i, j int) { lines[i], lines[j] = lines[j], lines[i] })
		wantTextAsModel(t, strings.Join(lines, "\n"))
		i := r.IntN(len(lines))
		wantTextAsModel(t, strings.Join(slices.Insert(linesOf(s), i, lines[i]), "\n"))
	}
	if good < 1000 {
		t.Errorf("only %d of the changed texts were of the form", good)
	}
}

// TestFirstWrongLineStays: whatever stands behind it.
func TestFirstWrongLineStays(t *testing.T) {
	r := rand.New(rand.NewPCG(5, 9))
	wrong := 0
	for range 5000 {
		s := changed(r, drawnBA(r), "pq,->\n \r\xe9")
		_, e, n := formats.ReadBA(s)
		lines := linesOf(s)
		if e == api.OK || n > len(lines) {
			continue
		}
		wrong++
		same := strings.Join(lines[:n], "\n") + "\n"
		for _, tail := range []string{"", "\n", "p", ",\n", "a,p->q\n", s, "\x00", strings.Repeat("x\n", 100)} {
			if f, e, k := formats.ReadBA(same + tail); e != api.ErrForm || k != n || !isNothing(f) {
				t.Fatalf("P5.8: ReadBA(%q) is refused at %d, with %q behind line %d at %d", s, n, tail, n, k)
			}
		}
	}
	if wrong < 1000 {
		t.Errorf("only %d of the texts had a wrong line", wrong)
	}
}

// TestBAGreat: the form knows no limits but those of names.
func TestBAGreat(t *testing.T) {
	f := api.File{Title: "ba", Ops: []api.Op{{Name: "start"}}, States: numbered("q", 5000)}
	symbols := numbered("s", 300)
	for _, name := range f.States {
		f.Rules = append(f.Rules, api.Rule{Op: "start", To: name})
	}
	for i := range 70000 {
		f.Rules = append(f.Rules, api.Rule{Op: symbols[i%300], From: f.States[i%4999], To: f.States[i%5000]})
	}
	for _, name := range symbols {
		f.Ops = append(f.Ops, api.Op{Name: name, Arity: 1})
	}
	f.Final = f.States[1:4998]
	want := strings.Join(slices.Concat(f.States, edgesOf(f), f.Final), "\n") + "\n"
	wantBA(t, f, want)
	wantRead(t, want, f)
	wantWrong(t, want+"q1", 5000+70000+4997+1)
	wantWrong(t, want+"q1\n"+want, 5000+70000+4997+1)
	drawing, e := formats.Dot(f)
	if n := strings.Count(drawing, "\n"); e != api.OK || n != 5000+2*5000+70000+3 {
		t.Errorf("P5.9: a drawing of %d lines, %d", n, e)
	}
	wantWrong(t, strings.Repeat("x", 1<<20), 1)
	wantWrong(t, "p\n"+strings.Repeat(",", 1<<20), 2)
	wantWrong(t, strings.Repeat("\n", 1<<20), 1)
}

func TestFileHandedIn(t *testing.T) {
	good, shapeless := content(t, fileA), content(t, fileA)
	shapeless.States = append(shapeless.States, "r")
	bad := content(t, fileA)
	bad.Final = []string{"q", "p"}
	for _, given := range []api.File{good, shapeless, bad} {
		f, unchanged := testkit.RoomyFile(given)
		for range 2 {
			s, e := formats.BA(f)
			u, v := formats.Dot(f)
			if !unchanged() {
				t.Fatalf("P5.10: %v was changed", given)
			}
			again, g := formats.BA(given)
			other, h := formats.Dot(given)
			if s != again || e != g || u != other || v != h {
				t.Errorf("P5.10: another answer of %v: %q, %d and %q, %d", given, s, e, u, v)
			}
		}
	}
}

func TestReadBANewMemory(t *testing.T) {
	s := text("p;q;a,p->q;b,q->q;q;p;")
	want := modelContent(s)
	f, _, _ := formats.ReadBA(s)
	g, _, _ := formats.ReadBA(s)
	texts := slices.Concat(f.States, f.Final)
	for _, r := range f.Rules {
		texts = append(texts, r.Op, r.From, r.To)
	}
	for _, op := range f.Ops {
		texts = append(texts, op.Name)
	}
	if slices.ContainsFunc(texts, func(name string) bool { return isPiece(name, s) }) {
		t.Errorf("P5.10: %v holds pieces of the text handed in", f)
	}
	testkit.Scribble(f.Final, "?")
	if slices.Contains(f.States, "?") {
		t.Errorf("P5.10: Final and States share memory")
	}
	testkit.Scribble(f.States, "!")
	if slices.Contains(f.Final, "!") {
		t.Errorf("P5.10: States and Final share memory")
	}
	testkit.Scribble(f.Ops, api.Op{Name: "?"})
	testkit.Scribble(f.Rules, api.Rule{Op: "?"})
	if !same(g, want) {
		t.Errorf("P5.10: an answer was changed by another: %v", g)
	}
	wantRead(t, s, want)
}

func TestReadBAAnyBytes(t *testing.T) {
	r := rand.New(rand.NewPCG(5, 10))
	for range 3000 {
		b := make([]byte, r.IntN(12))
		for i := range b {
			b[i] = byte(r.IntN(256))
		}
		for _, head := range []string{"", "p", "p\n", "p\na,", "p\na,p->", "p\n,\n"} {
			wantTextAsModel(t, head+string(b))
		}
	}
}
