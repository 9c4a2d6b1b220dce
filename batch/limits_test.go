package batch_test

import (
	"fmt"
	"math/rand/v2"
	"slices"
	"strconv"
	"strings"
	"testing"

	"wordset/api"
	"wordset/batch"
	"wordset/testkit"
)

// drawnOdd draws a batch of which one thing or two may be odd.
func drawnOdd(d testkit.Draw) batch.Batch {
	b := drawBatch(d)
	for range 1 + d(2) {
		it := oneOf(d, testkit.Upto(len(b.Items))...)
		switch d(9) {
		case 0:
			b.Budget = oneOf(d, -1, 0, 7, lowest, greatest)
		case 1:
			b.Items[it].Name = oneOf(d, "", "x", "f", "a-b", "x y", " x", "x\n", "é", "sixteen_letters_", "seventeen_letters", "end")
		case 2:
			b.Items[it].Expr = !b.Items[it].Expr
		case 3:
			b.Items[it].Text = oneOf(d, "", " ", "a", "a ", "\ta", "a\n", "a\nb", "a |", "a\r", "seventeen_letters", "a#", "Ops\nAutomaton A\nStates\nFinal States\nTransitions", "Ops\nAutomaton A\nStates\nFinal States\nTransitions\n \n", "Ops\nAutomaton A\nStates\nFinal States\nTransitions\n ", "Ops\n", "end\n")
		case 4:
			b.Items = slices.Delete(b.Items, it, it+1)
		default:
			if len(b.Questions) == 0 {
				continue
			}
			spoilQuestion(d, &b.Questions[d(len(b.Questions))])
		}
		if len(b.Items) == 0 {
			break
		}
	}
	return b
}

func spoilQuestion(d testkit.Draw, q *batch.Question) {
	switch d(5) {
	case 0:
		q.Kind = batch.Kind(oneOf(d, -1, 0, 1, 2, 3, 4, 5, 6, 7, 8, 9, 256+1, lowest, greatest))
	case 1:
		q.A = oneOf(d, "", "x", "f", "no", "x ", "x f", "x\n", "#")
	case 2:
		q.B = oneOf(d, "", "x", "f", "no", " x", "x f", "x\t")
	case 3:
		q.Word = oneOf(d, "", " ", "a", "a b", " a", "a\t", "a\nb", "a\n", "\n", "\r", "\x00\xff", "()", "3", "x")
	case 4:
		q.N = oneOf(d, 0, 1, -1, 200, 201, 1000, 1001, lowest, greatest)
	}
}

// TestOddBatches: which batches may be, and that the others are refused by both calls.
func TestOddBatches(t *testing.T) {
	d := testkit.Draw(rand.New(rand.NewPCG(22, 4)).IntN)
	good, bad := 0, 0
	for range 6000 {
		b := drawnOdd(d)
		if !mayBe(b) {
			bad++
			wantNothing(t, b)
			continue
		}
		good++
		wantText(t, b)
		if list, err := batch.Run(batch.Batch{Budget: b.Budget, Items: b.Items}); len(list) > 0 || err != api.OK {
			t.Fatalf("P22.3: Run of no question: %q, %d", list, err)
		}
	}
	if good < 1000 || bad < 1000 {
		t.Errorf("P22.1: %d batches might be, %d might not", good, bad)
	}
}

// TestEachOddField: every value of a field beside all kinds of questions.
func TestEachOddField(t *testing.T) {
	items := []batch.Item{{Name: "x", Expr: true, Text: "a"}, {Name: "y", Expr: true, Text: "%"}}
	good := 0
	for kind := -1; kind <= 10; kind++ {
		for _, a := range []string{"x", "y", "", "z", "x y", " x", "x\n"} {
			for _, other := range []string{"", "x", "y", "z", "x y", " x", "y\n"} {
				for _, w := range []string{"", "a", "a b", " a", "a ", "a\t", "\n", "a\nb", "y", "7", "()"} {
					for _, n := range []int{0, 1, -1, 200, 201, 1000, 1001, lowest, greatest} {
						q := batch.Question{Kind: batch.Kind(kind), A: a, B: other, Word: w, N: n}
						b := batch.Batch{Items: items, Questions: []batch.Question{q}}
						if !questionMayBe(items, q) {
							wantNothing(t, b)
							continue
						}
						good++
						wantText(t, b)
						if n < 10 {
							wantRun(t, b)
						}
					}
				}
			}
		}
	}
	if want := 2 * (3*1 + 2*2 + 6 + 5 + 3); good != want {
		t.Errorf("P22.1: %d questions may be, it should be %d", good, want)
	}
}

// TestQuestions: as many as may be, and one more.
func TestQuestions(t *testing.T) {
	b := batch.Batch{Items: []batch.Item{{Name: "x", Expr: true, Text: "a"}}}
	for i := range api.MaxAsks {
		b.Questions = append(b.Questions, batch.Question{Kind: batch.Takes, A: "x", Word: []string{"a", "a a"}[i%2]})
	}
	wantText(t, b)
	list := wantRun(t, b)
	if len(list) != 200 || list[199] != "200 takes x a a: no" {
		t.Errorf("P22.3: %d answers", len(list))
	}
	text, _ := batch.Text(b)
	wantParse(t, text+"# the end\n\n", b, api.OK, 0)
	wantParse(t, text+"\n \nexpr y a\ntakes x a\nsize x", batch.Batch{}, api.ErrLine, 205)
	wantParse(t, text+"expr y a\nfile y", batch.Batch{}, api.ErrLine, 203)
	c := b
	c.Items = append(slices.Clone(b.Items), batch.Item{Name: "y", Expr: true, Text: "b"})
	wantParse(t, text+"expr y b", c, api.OK, 0)
	b.Questions = append(b.Questions, b.Questions[0])
	wantNothing(t, b)
}

// TestNumbers: each number at its bounds, and how it may be written.
func TestNumbers(t *testing.T) {
	for _, c := range []struct {
		text string
		good bool
	}{
		{"words x 0", true}, {"words x 1000", true}, {"words x 1001", false}, {"words x 10000000000000000000000000000", false}, {"words x 00", false}, {"words x -0", false}, {"words x +1", false}, {"words x -1", false},
		{"words x 1_0", false}, {"words x 0x1", false}, {"words x 1e2", false}, {"words x ١", false}, {"words x", false}, {"words x 1 1", false}, {"words x a", false}, {"words x 1\r", false}, {"words x 999", true}, {"words x 07", false},
		{"lengths x 0", true}, {"lengths x 200", true}, {"lengths x 201", false}, {"lengths x 1000", false}, {"lengths x 020", false}, {"lengths x", false}, {"lengths x x", false}, {"lengths 3 x", false}, {"lengths x 18446744073709551616", false},
	} {
		text := "expr x a\n" + c.text
		if _, ok := wantSaid(t, text); ok != c.good {
			t.Errorf("P22.2: %q is told to be one that may be: %t", c.text, ok)
		}
	}
	for _, c := range []struct {
		text string
		n    int
	}{
		{"1", 1}, {"9223372036854775807", greatest}, {"9223372036854775808", -1}, {"18446744073709551617", -1}, {"0", -1}, {"01", -1}, {"-1", -1}, {"+1", -1}, {"", -1}, {"1 1", -1}, {"x", -1}, {"1_000", -1}, {"99", 99},
	} {
		b, ok := wantSaid(t, " budget "+c.text+"\nexpr x a")
		if ok != (c.n > 0) || ok && b.Budget != c.n {
			t.Errorf("P22.2: the budget %q is read as %d, %t", c.text, b.Budget, ok)
		}
	}
	for _, budget := range []int{0, 1, greatest} {
		wantText(t, batch.Batch{Budget: budget})
	}
	for _, budget := range []int{-1, lowest} {
		wantNothing(t, batch.Batch{Budget: budget})
	}
}

// TestBudgetAhead: the budget's line stands ahead of all that say something, alone.
func TestBudgetAhead(t *testing.T) {
	const file = "file f;Ops;Automaton A;States;Final States;Transitions;end"
	for _, c := range []struct {
		text string
		at   int
	}{
		{"budget 3", 0}, {";# a; ;budget 3;expr x a", 0}, {"budget 3;budget 3", 2}, {"budget 3;# a;budget 4", 3}, {"expr x a;budget 3", 2}, {file + ";budget 3", 8}, {"budget 3;" + file + ";empty f", 0}, {"budget 3;" + file + ";empty f;budget 3", 10},
	} {
		wantParse(t, lines(c.text), must(said(lines(c.text))), map[bool]api.Errno{true: api.ErrLine}[c.at > 0], c.at)
	}
}

func must(b batch.Batch, _ int) batch.Batch { return b }

// TestFileLines: which line of a file's text is the wrong one.
func TestFileLines(t *testing.T) {
	for _, c := range []struct {
		text string
		at   int
	}{
		{"file f;end", 2}, {"file f;;end", 3}, {"file f; \t;;end;size f", 4}, {"file f", 1}, {"file f;", 2}, {"file f;;;", 4}, {"file f;Ops a:2;x", 3}, {"file f;Ops a:2;end;x", 2}, {"file f;Ops a:;end", 2}, {"file f;Ops;Automaton A;States;Final States;Transitions;x;end", 7},
		{"file f;Ops;Automaton A;States;Final States;Transitions;a(x);end", 7}, {"file f;Ops;Automaton A;States;Final States;Transitions;a(x) ->;end", 7}, {"file f;Ops;Automaton;States;end", 3}, {"file f;Ops;Automaton A;States;Final States;end", 6},
		{"file f;# x;Ops;end", 2}, {"expr x a;#;file f;Ops;Automatom A;States;Final States;Transitions;end;x", 5}, {"file f;Ops\r;end", 2}, {"file f;Ops;Automaton A;States;Final States;Transitions;ende", 7}, {"file f;Ops;Automaton A;States;Final States;Transitions;End;end", 7},
		{"file f;Ops;Automaton A;States;Final States;Transitions; end\t;end", 8}, {"file f;Ops;Automaton A;States;Final States;Transitions;end#;end", 7}, {"file f g;end", 1}, {"file;end", 1}, {"file f#;end", 1}, {"filef;end", 1},
	} {
		wantParse(t, lines(c.text), batch.Batch{}, api.ErrLine, c.at)
		if _, at := said(lines(c.text)); at != c.at {
			t.Errorf("%q: the model tells %d, it should be %d", c.text, at, c.at)
		}
	}
	for _, last := range []string{"end", " end", "end\t", "\t end \t", "end;", "end;;#", "a(q)->q;end", " ;a() ->q ; ;end;universal f"} {
		if _, ok := wantSaid(t, lines("file f;;Ops a:1 ; \t;Automaton A;States;Final States;Transitions;"+last)); !ok {
			t.Errorf("P22.2: a file is refused that ends with %q", last)
		}
	}
}

// TestSymbolsOfExpressions: as many names and nodes as may be, and one more.
func TestSymbolsOfExpressions(t *testing.T) {
	named := func(n int) string {
		s := "s0"
		for k := 1; k < n; k++ {
			s += " | s" + strconv.Itoa(k)
		}
		return s + " | s0 s1"
	}
	for _, c := range []struct {
		text string
		size string
	}{
		{named(128), "131 states, 128 symbols, 130 edges"}, {named(129), ""}, {"sixteen_letters_", "2 states, 1 symbols, 1 edges"}, {"seventeen_letters", ""}, {"(a " + strings.Repeat("a ", 998) + "a)*", "1001 states, 1 symbols, 1001 edges"},
		{"a " + strings.Repeat("a ", 999) + "a", ""}, {"a b a_b a' 0 (a)b(0)", "9 states, 5 symbols, 8 edges"}, {"~*", "1 states, 0 symbols, 0 edges"}, {strings.Repeat("(", 9000) + "a" + strings.Repeat(")", 9000), "2 states, 1 symbols, 1 edges"},
		{"é", ""}, {"a\xffb", ""}, {"a~b|c%", "4 states, 3 symbols, 1 edges"}, {"a\tb", "3 states, 2 symbols, 2 edges"}, {"a\rb", ""},
	} {
		b := batch.Batch{Items: []batch.Item{{Name: "x", Expr: true, Text: c.text}}, Questions: []batch.Question{{Kind: batch.Size, A: "x"}}}
		if c.size == "" {
			wantNothing(t, b)
			wantParse(t, "expr x "+c.text+"\nsize x", batch.Batch{}, api.ErrLine, 1)
			continue
		}
		wantText(t, b)
		if list := wantRun(t, b); !slices.Equal(list, []string{"1 size x: " + c.size}) {
			t.Errorf("P22.3: %q of %q, it should be %q", list, brief(c.text), c.size)
		}
	}
	b, _ := said("expr x b a b c1\nwords x 2")
	if list := wantRun(t, b); list[0] != "1 words x 2: b a b c1" {
		t.Errorf("P22.3: %q: the symbols have other names", list)
	}
}

// TestNoContent: what is answered of items without a content, or without an automaton, by each kind.
func TestNoContent(t *testing.T) {
	ops := ""
	for k := range 129 {
		ops += " a" + strconv.Itoa(k) + ":1"
	}
	states := ""
	for p := range 4097 {
		states += " q" + strconv.Itoa(p)
	}
	file := func(name, ops, states string) batch.Item {
		return batch.Item{Name: name, Text: "Ops" + ops + "\nAutomaton A\nStates" + states + "\nFinal States\nTransitions\n"}
	}
	b := batch.Batch{Items: []batch.Item{
		{Name: "no", Expr: true, Text: "(" + strings.Repeat("a|", 255) + "a)*"}, {Name: "yes", Expr: true, Text: "a"}, file("symbols", ops, ""), file("states", "", states), file("fewer", ops[len(" a0:1"):], states[len(" q0"):]),
	}}
	ask := func(kind batch.Kind, a, other, want string) {
		t.Helper()
		b.Questions = []batch.Question{{Kind: kind, A: a, B: other}}
		if kind == batch.Takes {
			b.Questions[0].Word = "()"
		}
		if list := wantRun(t, b); !strings.HasSuffix(list[0], ": "+want) {
			t.Errorf("P22.3: %q, it should be %q", list[0], want)
		}
	}
	for kind := batch.Empty; kind <= batch.Size; kind++ {
		switch kind {
		case batch.Included, batch.Equals:
			for _, name := range []string{"no", "yes", "symbols", "states"} {
				ask(kind, name, "no", "error 8")
				ask(kind, "no", name, "error 8")
			}
			ask(kind, "yes", "symbols", "error limit 2")
			ask(kind, "states", "symbols", "error limit 1")
			continue
		case batch.Empty, batch.Universal:
			ask(kind, "symbols", "", "error limit 1")
			ask(kind, "states", "", "error limit 1")
			ask(kind, "fewer", "", "error limit 1")
		default:
			ask(kind, "symbols", "", "error 8")
			ask(kind, "states", "", "error 8")
		}
		ask(kind, "no", "", "error 8")
	}
	ask(batch.Size, "fewer", "", "4096 states, 128 symbols, 0 edges")
	ask(batch.Takes, "fewer", "", "no")
}

// TestLongTexts: texts as long as may be, of one piece each time, and one byte more.
func TestLongTexts(t *testing.T) {
	const emptyItem = "Ops\nAutomaton A\nStates\nFinal States\nTransitions\n"
	for _, piece := range []string{" ", "\n", "#", "#\n", "\t\n", "x", "\x00", "end\n", "file f\n", "expr x ", "budget 1\n", "size x\n", "(", "a "} {
		text := strings.Repeat(piece, api.MaxBatch/len(piece))
		text += strings.Repeat("\n", api.MaxBatch-len(text))
		wantSaid(t, text)
		wantParse(t, text+"\n", batch.Batch{}, api.ErrArg, 0)
	}
	for _, more := range []string{"expr x a\nsize ", "file f\n" + emptyItem, "file f\n" + emptyItem + strings.Repeat("\n", 1000)} {
		for _, text := range []string{more + strings.Repeat("\n", api.MaxBatch-len(more)), more + strings.Repeat(" ", api.MaxBatch-len(more)-4) + "\nend", more + strings.Repeat(" ", api.MaxBatch-len(more)-5) + "\nend\n"} {
			b, wrong := said(text)
			wantParse(t, text, b, map[bool]api.Errno{true: api.ErrLine}[wrong > 0], wrong)
		}
	}
	wantParse(t, strings.Repeat("x", 1<<21), batch.Batch{}, api.ErrArg, 0)
}

// TestLongBatches: the longest text that may be written, by its items of each sort and its questions, and one byte more.
func TestLongBatches(t *testing.T) {
	long := func(b batch.Batch, room int) {
		t.Helper()
		if text, err := batch.Text(b); room >= 0 && (err != api.OK || len(text) != api.MaxBatch-room || text != written(b)) || room < 0 && (err != api.ErrSize || text != "") {
			t.Fatalf("P22.1: Text of a batch with room for %d bytes: %d of them, %d", room, len(text), err)
		}
		if room >= 0 {
			wantText(t, b)
		}
	}
	for _, room := range []int{2, 1, 0, -1, -2, -1000, -1 << 22} {
		n := api.MaxBatch - room
		long(batch.Batch{Items: []batch.Item{{Name: "x", Expr: true, Text: "a" + strings.Repeat(" ", n-len("expr x ab\n")) + "b"}}}, room)
		const head = "Ops\nAutomaton A\nStates\nFinal States\nTransitions"
		long(batch.Batch{Items: []batch.Item{{Name: "x", Text: head + strings.Repeat(" ", n-len("file x\n"+head+"\nend\n")) + "\n"}}}, room)
		b := batch.Batch{Budget: 77, Items: []batch.Item{{Name: "x", Expr: true, Text: "a"}}, Questions: []batch.Question{{Kind: batch.Takes, A: "x"}, {Kind: batch.Size, A: "x"}}}
		b.Questions[0].Word = strings.Repeat("w", n-len(written(b))-1)
		long(b, room)
	}
	many := batch.Batch{}
	for i := range 100000 {
		many.Items = append(many.Items, batch.Item{Name: "i" + strconv.Itoa(i), Expr: true, Text: "a"})
	}
	if text, err := batch.Text(many); text != "" || err != api.ErrSize {
		t.Errorf("P22.1: Text of many items: %d bytes, %d", len(text), err)
	}
	many.Items = many.Items[:60000]
	many.Questions = []batch.Question{{Kind: batch.Size, A: "i59999"}}
	text, err := batch.Text(many)
	if err != api.OK {
		t.Fatalf("P22.1: Text of fewer items: %d", err)
	}
	wantParse(t, text, many, api.OK, 0)
	if list, err := batch.Run(many); err != api.OK || !slices.Equal(list, []string{"1 size i59999: 2 states, 1 symbols, 1 edges"}) {
		t.Errorf("P22.3: %q, %d", list, err)
	}
	many.Questions[0].A = "i60000"
	wantNothing(t, many)
}

// TestRunOfLong: Run answers a batch too whose text would be too long.
func TestRunOfLong(t *testing.T) {
	word := strings.Repeat("a ", api.MaxBatch/2) + "a"
	b := batch.Batch{Items: []batch.Item{{Name: "x", Expr: true, Text: "a*"}}, Questions: []batch.Question{{Kind: batch.Takes, A: "x", Word: word}}}
	if text, err := batch.Text(b); text != "" || err != api.ErrSize {
		t.Errorf("P22.1: %d bytes, %d", len(text), err)
	}
	if list, err := batch.Run(b); err != api.OK || !slices.Equal(list, []string{"1 takes x " + word + ": yes"}) {
		t.Errorf("P22.3: %d answers, %d", len(list), err)
	}
}

// TestBudgets: the least budget that suffices, by each kind that has one, and one below it.
func TestBudgets(t *testing.T) {
	const items = "expr x (a|b)*a(a|b)(a|b);expr y (a|b)*a(a|b);expr z %|a;"
	for question, short := range map[string]string{"empty x": "error budget", "universal z": "error budget", "included x y": "error budget", "equals x x": "error budget", "words x 4": "error 9", "lengths x 9": "error 9"} {
		all := answered(t, lines(items+question))[0]
		enough := 0
		for n := 1; enough < 3 && n < 1000; n++ {
			got := answered(t, lines(fmt.Sprint("budget ", n, ";")+items+question))[0]
			if got == all {
				enough++
			} else if enough > 0 || got != "1 "+question+": "+short {
				t.Fatalf("P22.3: %q with a budget of %d", got, n)
			}
			if got == all && n == 1 && question != "equals x x" {
				t.Errorf("P22.3: %q with a budget of 1", got)
			}
		}
		if enough < 3 {
			t.Errorf("P22.3: no budget suffices for %q", question)
		}
	}
	for _, question := range []string{"takes x a a a", "size x"} {
		if all, one := answered(t, lines(items+question)), answered(t, lines("budget 1;"+items+question)); !slices.Equal(all, one) {
			t.Errorf("P22.3: %q, %q with a budget of 1", all, one)
		}
	}
}

// TestMemory: what is answered is new memory, what is handed in is not changed.
func TestMemory(t *testing.T) {
	d := testkit.Draw(rand.New(rand.NewPCG(22, 5)).IntN)
	for range 100 {
		b := drawBatch(d)
		items, same1 := testkit.Roomy(b.Items, batch.Item{Name: "room"})
		questions, same2 := testkit.Roomy(b.Questions, batch.Question{A: "room"})
		b.Items, b.Questions = items, questions
		unchanged := func() bool { return same1() && same2() }
		wrong := testkit.Memory(func() testkit.Answers {
			var x testkit.Answers
			x.Text(batch.Text(b))
			x.Row(batch.Run(b))
			return x
		}, unchanged)
		if wrong != "" {
			t.Fatalf("P22.6: of %s: %s", told(b), wrong)
		}
		wantApart(t, written(b))
	}
}

// wantApart reads a text twice, and writes over the first batch.
func wantApart(t *testing.T, text string) {
	t.Helper()
	one, _, _ := batch.Parse(text)
	two, _, _ := batch.Parse(text)
	testkit.Scribble(one.Items, batch.Item{Name: "ink"})
	testkit.Scribble(one.Questions, batch.Question{A: "ink"})
	again, _, _ := batch.Parse(text)
	if want, _ := said(text); !same(two, want) || !same(again, want) {
		t.Fatalf("P22.6: two batches of one text share memory")
	}
}
