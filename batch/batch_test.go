package batch_test

import (
	"math/rand/v2"
	"slices"
	"strings"
	"testing"

	"wordset/api"
	"wordset/batch"
	"wordset/testkit"
)

const example = "expr x a b*;expr y a (b | c)*;included x y;included y x;takes x a  b;words x 3;lengths y 2;size x"

const emptyFile = "file f;Ops a:1;Automaton A;States;Final States;Transitions;end"

// answered reads a text and runs what it says.
func answered(t *testing.T, text string) []string {
	t.Helper()
	b, err, at := batch.Parse(text)
	if err != api.OK || at != 0 {
		t.Fatalf("P22.2: Parse(%q): %d at %d", brief(text), err, at)
	}
	list, err := batch.Run(b)
	if err != api.OK {
		t.Fatalf("P22.3: Run of %q: %d", brief(text), err)
	}
	return list
}

// TestExamples: the chapter's texts and their answers.
func TestExamples(t *testing.T) {
	for _, c := range []struct {
		text string
		want []string
	}{
		{example, []string{"1 included x y: yes ..", "2 included y x: no 1 ..: a c", "3 takes x a  b: yes", "4 words x 3: a, a b, a b b", "5 lengths y 2: 0 1 2", "6 size x: 3 states, 2 symbols, 3 edges"}},
		{"expr x a b*;takes x c;takes x;takes x ()", []string{"1 takes x c: error 50", "2 takes x: error 50", "3 takes x (): no"}},
		{emptyFile + ";empty f", []string{"1 empty f: yes .."}},
		{"budget 1;expr x (a|b)*a(a|b)(a|b);lengths x 9", []string{"1 lengths x 9: error 9"}},
		{"", nil},
	} {
		got := answered(t, lines(c.text))
		if len(got) != len(c.want) {
			t.Fatalf("P22.3: %q: %q", c.text, got)
		}
		for i, w := range c.want {
			if !like(got[i], w) {
				t.Errorf("P22.3: %q: %q, it should be %q", c.text, got[i], w)
			}
		}
	}
}

// like tells whether a line is as it should be, with ".." for any number.
func like(got, want string) bool {
	from, to, open := strings.Cut(want, "..")
	number, ok := strings.CutPrefix(got, from)
	number, behind := strings.CutSuffix(number, to)
	return ok && behind && (number == "") != open && strings.Trim(number, "0123456789") == ""
}

// TestExamplesOfParse: the chapter's, field by field.
func TestExamplesOfParse(t *testing.T) {
	b := batch.Batch{
		Items: []batch.Item{{Name: "x", Expr: true, Text: "a b*"}, {Name: "y", Expr: true, Text: "a (b | c)*"}},
		Questions: []batch.Question{
			{Kind: batch.Included, A: "x", B: "y"}, {Kind: batch.Included, A: "y", B: "x"}, {Kind: batch.Takes, A: "x", Word: "a  b"},
			{Kind: batch.Words, A: "x", N: 3}, {Kind: batch.Lengths, A: "y", N: 2}, {Kind: batch.Size, A: "x"},
		},
	}
	wantParse(t, lines(example), b, api.OK, 0)
	wantText(t, b)
	f := batch.Batch{Items: []batch.Item{{Name: "f", Text: lines("Ops a:1;Automaton A;States;Final States;Transitions;")}}, Questions: []batch.Question{{Kind: batch.Empty, A: "f"}}}
	wantParse(t, lines(emptyFile+";empty f"), f, api.OK, 0)
	wantText(t, f)
	wantParse(t, "", batch.Batch{}, api.OK, 0)
	wantText(t, batch.Batch{})
	for _, c := range []struct {
		text string
		at   int
	}{
		{"file f;Ops a:2;end", 2}, {"file f;Ops a:1;end", 3}, {"file f;Ops a:1", 2}, {"size x", 1}, {"expr x a;expr x b", 2}, {"expr x", 1}, {"expr x a |", 1}, {"budget 0", 1},
		{"expr x a;budget 5", 2}, {"expr x a;words x 01", 2}, {"expr x a;lengths x 201", 2}, {"expr x a;included x", 2},
	} {
		wantParse(t, lines(c.text), batch.Batch{}, api.ErrLine, c.at)
	}
}

// TestAllKinds: each kind's line by a language that is known; by all of them the words are told right.
func TestAllKinds(t *testing.T) {
	const items = "expr none ~;expr one %;expr all (a|b)*;expr ab a b;expr long a a a|b;file f;Ops start:0 b:1 a:1;Automaton A;States p q;Final States q;Transitions;start() -> p;b(p) -> q;a(q) -> q;end;"
	for _, c := range [][2]string{
		{"empty none", "yes .."}, {"empty one", "no 0 ..: ()"}, {"empty ab", "no 0 ..: a b"}, {"universal all", "yes .."}, {"universal one", "yes .."}, {"universal none", "no 0 ..: ()"}, {"universal ab", "no 0 ..: ()"},
		{"included none one", "yes .."}, {"included one none", "no 1 ..: ()"}, {"included f all", "yes .."}, {"equals f f", "yes .."}, {"equals ab all", "no 2 ..: ()"},
		{"takes f b a a", "yes"}, {"takes f a b", "no"}, {"takes f b", "yes"}, {"takes f ()", "no"}, {"takes one ()", "yes"}, {"takes one", "error 50"}, {"takes one a", "error 50"}, {"takes f p", "error 50"}, {"takes all () a", "error 50"},
		{"words none 5", "none"}, {"words one 0", "none"}, {"words one 5", "()"}, {"words all 4", "(), a, b, a a"}, {"words f 3", "b, b a, b a a"}, {"words long 9", "b, a a a"}, {"words ab 1000", "a b"},
		{"lengths none 0", "0"}, {"lengths one 2", "1 0 0"}, {"lengths all 4", "1 2 4 8 16"}, {"lengths f 2", "0 1 1"}, {"lengths long 4", "0 1 0 1 0"},
		{"size none", "1 states, 0 symbols, 0 edges"}, {"size all", "3 states, 2 symbols, 6 edges"}, {"size f", "2 states, 2 symbols, 2 edges"}, {"size long", "5 states, 2 symbols, 4 edges"},
	} {
		if got := answered(t, lines(items+c[0])); len(got) != 1 || !like(got[0], "1 "+c[0]+": "+c[1]) {
			t.Errorf("P22.3: %q, it should be %q", got, "1 "+c[0]+": "+c[1])
		}
	}
}

// TestDrawnBatches: what is written, read again, and answered; the answers are alike, whatever stands besides.
func TestDrawnBatches(t *testing.T) {
	d := testkit.Draw(rand.New(rand.NewPCG(22, 1)).IntN)
	seen := map[string]int{}
	for range 600 {
		b := drawBatch(d)
		if !mayBe(b) {
			t.Fatalf("%s was to be one that may be", told(b))
		}
		wantText(t, b)
		got := wantRun(t, b)
		for i, x := range got {
			kind, rest, _ := strings.Cut(strings.TrimPrefix(x[strings.Index(x, " "):], " "), " ")
			told := strings.Fields(rest[strings.LastIndex(rest, ":")+1:])
			if strings.Contains(rest, ": error") {
				told = strings.Fields(rest[strings.Index(rest, ": error")+2:])
				seen[kind+" "+strings.Join(told, " ")]++
			}
			seen[kind]++
			wantAlone(t, d, b, i, x)
		}
	}
	for _, kind := range words[1:] {
		if seen[kind] < 100 || seen[kind+" error 8"] < 3 {
			t.Errorf("P22.3: only %d of %s, %d of them without a content", seen[kind], kind, seen[kind+" error 8"])
		}
	}
	for _, kind := range []string{"takes error 50", "words error 9", "lengths error 9", "included error budget", "equals error budget", "universal error budget", "empty error limit 1", "included error limit 2"} {
		if seen[kind] < 3 {
			t.Errorf("P22.3: only %d of %s", seen[kind], kind)
		}
	}
}

// wantAlone asks a question of a batch again, among other questions and items, in another order.
func wantAlone(t *testing.T, d testkit.Draw, b batch.Batch, i int, want string) {
	t.Helper()
	q := b.Questions[i]
	c := batch.Batch{Budget: b.Budget, Questions: []batch.Question{q}}
	for _, it := range b.Items {
		if it.Name == q.A || it.Name == q.B || d(3) == 0 {
			c.Items = append(c.Items, it)
		}
	}
	c.Items = append(c.Items, drawItem(d, "other"))
	slices.Reverse(c.Items)
	at := d(3)
	for range at {
		c.Questions = append([]batch.Question{drawQuestion(d, c.Items)}, c.Questions...)
	}
	c.Questions = append(c.Questions, drawQuestion(d, c.Items))
	got, err := batch.Run(c)
	_, want, _ = strings.Cut(want, " ")
	if err != api.OK || len(got) != at+2 {
		t.Fatalf("P22.5: Run of %s: %q, %d", told(c), got, err)
	}
	if _, again, _ := strings.Cut(got[at], " "); again != want {
		t.Fatalf("P22.5: %q, and %q of the batch %s", want, again, told(c))
	}
}

// loose lays a batch's text out otherwise: comments, empty lines, other blanks, no last line feed. What stands in a file, and what is an expression's text or a word, stays.
func loose(d testkit.Draw, b batch.Batch) (text string, mixed bool) {
	var s strings.Builder
	line := func(parts ...string) {
		for d(4) == 0 {
			s.WriteString(drawBlanks(d, 0) + oneOf(d, "", "#", "# budget 3", "#end", "##x \xff") + drawBlanks(d, 0) + "\n")
		}
		s.WriteString(drawBlanks(d, 0))
		for i, part := range parts {
			if i > 0 {
				s.WriteString(drawBlanks(d, 1))
			}
			s.WriteString(part)
		}
		s.WriteString(drawBlanks(d, 0) + "\n")
	}
	if b.Budget > 0 {
		line("budget", strings.TrimSuffix(strings.TrimPrefix(written(batch.Batch{Budget: b.Budget}), "budget "), "\n"))
	}
	items, questions := b.Items, b.Questions
	for len(items)+len(questions) > 0 {
		// A question may stand ahead of items that it does not ask about.
		if len(questions) > 0 && (len(items) == 0 || d(2) == 0 && questionMayBe(b.Items[:len(b.Items)-len(items)], questions[0])) {
			q := questions[0]
			parts := strings.SplitN(strings.TrimSuffix(written(batch.Batch{Questions: []batch.Question{q}}), "\n"), " ", 3)
			line(parts...)
			questions = questions[1:]
			continue
		}
		if it := items[0]; it.Expr {
			line("expr", it.Name, it.Text)
		} else {
			line("file", it.Name)
			s.WriteString(it.Text + drawBlanks(d, 0) + "end" + drawBlanks(d, 0) + "\n")
		}
		mixed = mixed || len(questions) < len(b.Questions)
		items = items[1:]
	}
	text = s.String()
	if d(2) == 0 {
		text = strings.TrimSuffix(text, "\n")
	}
	return text, mixed
}

// TestLayout: other blanks, comments and empty lines make no difference, nor do questions ahead of items that they do not ask about.
func TestLayout(t *testing.T) {
	d := testkit.Draw(rand.New(rand.NewPCG(22, 2)).IntN)
	mixed := 0
	for range 600 {
		b := drawBatch(d)
		text, isMixed := loose(d, b)
		if got, ok := wantSaid(t, text); !ok || !same(got, b) {
			t.Fatalf("P22.2: %q: %s; it should be %s", brief(text), told(got), told(b))
		}
		if isMixed {
			mixed++
		}
	}
	if mixed < 100 {
		t.Errorf("P22.2: only %d texts with a question ahead of an item", mixed)
	}
}

// spoil changes a text somewhere: a byte, a piece or a line is put in, left out, doubled or replaced.
func spoil(d testkit.Draw, text string) string {
	if d(2) == 0 {
		at := d(len(text) + 1)
		piece := oneOf(d, "\n", " ", "\t", "#", "\r", "end", "\nend\n", "x", "0", "-", "|", ")", "\xff", "\nfile f\n", "\nbudget 4\n", "\nsize x\n", "\nexpr x a\n", "\nwords x 1000\n", "\nwords x 1001\n", "\nlengths x 200\n", "\nlengths x 201\n")
		return text[:at] + piece + text[min(at+d(3), len(text)):]
	}
	list := strings.Split(text, "\n")
	at, from := d(len(list)), d(len(list))
	switch d(3) {
	case 0:
		list = slices.Delete(list, at, at+1)
	case 1:
		list = slices.Insert(list, at, list[from])
	case 2:
		list[at], list[from] = list[from], list[at]
	}
	return strings.Join(list, "\n")
}

// TestSpoilt: texts of batches with something changed: which line is told to be wrong, and that it stays so, whatever stands behind it.
func TestSpoilt(t *testing.T) {
	d := testkit.Draw(rand.New(rand.NewPCG(22, 3)).IntN)
	good, inner, plain := 0, 0, 0
	for range 4000 {
		text, _ := loose(d, drawBatch(d))
		for range 1 + d(2) {
			text = spoil(d, text)
		}
		if _, ok := wantSaid(t, text); ok {
			good++
			continue
		}
		_, wrong := said(text)
		list := strings.Split(text, "\n")
		if within(list, wrong) {
			inner++
			continue
		}
		plain++
		behind := strings.Join(list[:wrong], "\n") + "\n" + oneOf(d, "", "end", "\x00", "file g\n", "\nend\nend", "expr x a\nsize x", strings.Join(list, "\n"))
		wantParse(t, behind, batch.Batch{}, api.ErrLine, wrong)
		wantParse(t, strings.Join(list[:wrong], "\n"), batch.Batch{}, api.ErrLine, wrong)
	}
	if good < 200 || inner < 200 || plain < 200 {
		t.Errorf("P22.2: %d texts of batches, %d with a wrong line in a file, %d with another", good, inner, plain)
	}
}

// within tells whether a line stands in a file's text, or is its end: the lines ahead of it are no batch, or those up to its `file` line are none but for the end that is missing.
func within(list []string, line int) bool {
	for i := line - 2; i >= 0; i-- {
		if files.MatchString(trimmed(list[i])) {
			_, wrong := said(strings.Join(list[:i+1], "\n"))
			_, ahead := said(strings.Join(list[:line-1], "\n"))
			return wrong == i+1 && ahead > 0
		}
	}
	return false
}
