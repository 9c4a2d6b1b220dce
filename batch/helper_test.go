package batch_test

import (
	"fmt"
	"math/big"
	"regexp"
	"slices"
	"strings"
	"testing"

	"wordset/api"
	"wordset/batch"
	"wordset/count"
	"wordset/decide"
	"wordset/format"
	"wordset/grammar"
	"wordset/nfa"
	"wordset/position"
	"wordset/regex"
	"wordset/testkit"
	"wordset/witness"
)

const lowest, greatest = -1 << 63, 1<<63 - 1

// words of the lines, by the kinds' numbers.
var words = [...]string{"", "empty", "universal", "included", "equals", "takes", "words", "lengths", "size"}

// lines gives a text with ";" for line feeds.
func lines(s string) string { return strings.ReplaceAll(s, ";", "\n") }

// brief is a text, of what is long just the beginning.
func brief(s string) string {
	if len(s) > 1000 {
		return s[:1000] + " .."
	}
	return s
}

func told(b batch.Batch) string { return brief(fmt.Sprintf("%+q", fmt.Sprint(b))) }

func same(b, c batch.Batch) bool {
	return b.Budget == c.Budget && slices.Equal(b.Items, c.Items) && slices.Equal(b.Questions, c.Questions)
}

// trimmed, and what may stand in lines, as expressions of a kind that the program has not.
var (
	ends     = regexp.MustCompile(`^[ \t]+|[ \t]+$`)
	runs     = regexp.MustCompile(`[A-Za-z0-9_']+`)
	aName    = regexp.MustCompile(`^[A-Za-z0-9_']{1,16}$`)
	budgets  = regexp.MustCompile(`^budget[ \t]+([1-9][0-9]*)$`)
	exprs    = regexp.MustCompile(`(?s)^expr[ \t]+([A-Za-z0-9_']{1,16})[ \t]+(.+)$`)
	files    = regexp.MustCompile(`^file[ \t]+([A-Za-z0-9_']{1,16})$`)
	ones     = regexp.MustCompile(`^(empty|universal|size)[ \t]+([A-Za-z0-9_']{1,16})$`)
	twos     = regexp.MustCompile(`^(included|equals)[ \t]+([A-Za-z0-9_']{1,16})[ \t]+([A-Za-z0-9_']{1,16})$`)
	takings  = regexp.MustCompile(`(?s)^(takes)[ \t]+([A-Za-z0-9_']{1,16})(?:[ \t]+(.+))?$`)
	numbered = regexp.MustCompile(`^(words|lengths)[ \t]+([A-Za-z0-9_']{1,16})[ \t]+(0|[1-9][0-9]*)$`)
)

func trimmed(s string) string { return ends.ReplaceAllString(s, "") }

// own are the names of an expression's text.
func own(text string) []string {
	var list []string
	for _, name := range runs.FindAllString(text, -1) {
		if !slices.Contains(list, name) {
			list = append(list, name)
		}
	}
	return list
}

func itemMayBe(it batch.Item) bool {
	if !aName.MatchString(it.Name) {
		return false
	}
	if it.Expr {
		_, problem := regex.Parse(it.Text, own(it.Text))
		return trimmed(it.Text) == it.Text && !strings.Contains(it.Text, "\n") && problem.Code == api.OK
	}
	_, err := grammar.Check(it.Text)
	return err == api.OK && strings.HasSuffix(it.Text, "\n")
}

func questionMayBe(items []batch.Item, q batch.Question) bool {
	has := func(name string) bool {
		return slices.ContainsFunc(items, func(it batch.Item) bool { return it.Name == name })
	}
	two := q.Kind == batch.Included || q.Kind == batch.Equals
	switch {
	case q.Kind < 1 || q.Kind > 8, !has(q.A), two && !has(q.B), !two && q.B != "":
		return false
	case q.Kind == batch.Takes && (q.Word != trimmed(q.Word) || strings.Contains(q.Word, "\n")), q.Kind != batch.Takes && q.Word != "":
		return false
	}
	most := map[batch.Kind]int{batch.Words: 1000, batch.Lengths: 200}[q.Kind]
	return 0 <= q.N && q.N <= most
}

func mayBe(b batch.Batch) bool {
	for i, it := range b.Items {
		if !itemMayBe(it) || slices.ContainsFunc(b.Items[:i], func(other batch.Item) bool { return other.Name == it.Name }) {
			return false
		}
	}
	for _, q := range b.Questions {
		if !questionMayBe(b.Items, q) {
			return false
		}
	}
	return b.Budget >= 0 && len(b.Questions) <= 200
}

// atMost reads digits.
func atMost(digits string, most int) (int, bool) {
	n, ok := new(big.Int).SetString(digits, 10)
	if !ok || n.Cmp(big.NewInt(int64(most))) > 0 {
		return 0, false
	}
	return int(n.Int64()), true
}

// asked says which question a trimmed line asks.
func asked(line string) (batch.Question, bool) {
	for _, form := range []*regexp.Regexp{ones, twos, takings, numbered} {
		m := form.FindStringSubmatch(line)
		if m == nil {
			continue
		}
		q := batch.Question{Kind: batch.Kind(slices.Index(words[:], m[1])), A: m[2]}
		switch form {
		case twos:
			q.B = m[3]
		case takings:
			q.Word = m[3]
		case numbered:
			n, ok := atMost(m[3], 1000)
			q.N = n
			return q, ok
		}
		return q, true
	}
	return batch.Question{}, false
}

// said says what the batch of a text is, or the number of its first wrong line.
func said(text string) (b batch.Batch, wrong int) {
	all := strings.Split(text, "\n")
	first := true
	for i := 0; i < len(all); i++ {
		line := trimmed(all[i])
		if line == "" || strings.HasPrefix(line, "#") {
			continue
		}
		c := b
		if m := budgets.FindStringSubmatch(line); m != nil && first {
			n, ok := atMost(m[1], greatest)
			if !ok {
				return batch.Batch{}, i + 1
			}
			c.Budget = n
		} else if m := exprs.FindStringSubmatch(line); m != nil {
			c.Items = append(c.Items, batch.Item{Name: m[1], Expr: true, Text: m[2]})
		} else if m := files.FindStringSubmatch(line); m != nil && !slices.ContainsFunc(b.Items, func(it batch.Item) bool { return it.Name == m[1] }) {
			end := slices.IndexFunc(all[i+1:], func(s string) bool { return trimmed(s) == "end" })
			if end < 0 {
				return batch.Batch{}, len(all)
			}
			inner := ""
			for k, s := range all[i+1 : i+1+end] {
				inner += s + "\n"
				if at, err := grammar.Check(inner); err != api.OK && at < len(inner) {
					return batch.Batch{}, i + k + 2
				}
			}
			i += end + 1
			c.Items = append(c.Items, batch.Item{Name: m[1], Text: inner})
		} else if q, ok := asked(line); ok {
			c.Questions = append(c.Questions, q)
		} else {
			return batch.Batch{}, i + 1
		}
		if !mayBe(c) {
			return batch.Batch{}, i + 1
		}
		b, first = c, false
	}
	return b, 0
}

// line says how a question is written.
func line(q batch.Question) string {
	s := words[q.Kind] + " " + q.A
	switch q.Kind {
	case batch.Included, batch.Equals:
		s += " " + q.B
	case batch.Words, batch.Lengths:
		s += fmt.Sprintf(" %d", q.N)
	case batch.Takes:
		s = strings.TrimRight(s+" "+q.Word, " ")
	}
	return s
}

// written says how a batch is written.
func written(b batch.Batch) string {
	s := ""
	if b.Budget > 0 {
		s = fmt.Sprintf("budget %d\n", b.Budget)
	}
	for _, it := range b.Items {
		if it.Expr {
			s += fmt.Sprintf("expr %s %s\n", it.Name, it.Text)
		} else {
			s += fmt.Sprintf("file %s\n%send\n", it.Name, it.Text)
		}
	}
	for _, q := range b.Questions {
		s += line(q) + "\n"
	}
	return s
}

// subject is what there is to be asked of an item; with a code if it has no content.
type subject struct {
	code    api.Errno
	text    string
	auto    api.Auto
	symbols []string
	beyond  api.Errno // why there is no automaton
}

// lay writes the file of an automaton whose states are named q0, q1 ..
func lay(title string, symbols []string, a api.Auto) string {
	lines := []string{"Ops start:0", "Automaton " + title, "States", "Final States", "Transitions"}
	for _, name := range symbols {
		lines[0] += " " + name + ":1"
	}
	for p := range a.States {
		lines[2] += fmt.Sprint(" q", p)
	}
	for _, p := range a.Final {
		lines[3] += fmt.Sprint(" q", p)
	}
	for _, p := range a.Start {
		lines = append(lines, fmt.Sprint("start() -> q", p))
	}
	for _, e := range a.Edges {
		lines = append(lines, fmt.Sprintf("%s(q%d) -> q%d", symbols[e.Sym], e.From, e.To))
	}
	return strings.Join(lines, "\n") + "\n"
}

func subjectOf(b batch.Batch, name string) subject {
	it := b.Items[slices.IndexFunc(b.Items, func(it batch.Item) bool { return it.Name == name })]
	if it.Expr {
		symbols := own(it.Text)
		e, _ := regex.Parse(it.Text, symbols)
		a, err := position.Build(e, len(symbols))
		return subject{code: err, text: lay(name, symbols, a), auto: a, symbols: symbols, beyond: err}
	}
	f, _ := format.Parse(it.Text)
	a, _, symbols, err := format.Auto(f)
	return subject{text: it.Text, auto: a, symbols: symbols, beyond: err}
}

// answer says what stands behind a question's line.
func answer(b batch.Batch, q batch.Question) string {
	s := subjectOf(b, q.A)
	if q.Kind <= batch.Equals {
		other := s
		if q.B != "" {
			other = subjectOf(b, q.B)
		}
		if s.code != api.OK || other.code != api.OK {
			return fmt.Sprintf("error %d", max(s.code, other.code)) // there is but one code
		}
		o := decide.Run(s.text, other.text, int(q.Kind)-1, api.Limits{States: 1 << 30, Symbols: 1 << 30, Rules: 1 << 30, Budget: b.Budget})
		return strings.TrimSuffix(decide.Text(o), "\n")
	}
	if s.beyond != api.OK {
		return fmt.Sprintf("error %d", s.beyond)
	}
	switch q.Kind {
	case batch.Takes:
		return taking(s, q.Word)
	case batch.Words:
		list, err := count.First(s.auto, q.N, b.Budget)
		return listed(list, err, s.symbols)
	case batch.Lengths:
		list, err := count.ByLength(s.auto, q.N, b.Budget)
		if err != api.OK {
			return fmt.Sprintf("error %d", err)
		}
		return strings.Join(list, " ")
	}
	a, _ := nfa.Normal(s.auto)
	return fmt.Sprintf("%d states, %d symbols, %d edges", a.States, a.Symbols, len(a.Edges))
}

func taking(s subject, text string) string {
	w, problem := witness.Read(text, s.symbols)
	if problem.Code != api.OK {
		return fmt.Sprintf("error %d", problem.Code)
	}
	if testkit.Takes(s.auto, w) {
		return "yes"
	}
	return "no"
}

func listed(list [][]int, err api.Errno, symbols []string) string {
	if err != api.OK {
		return fmt.Sprintf("error %d", err)
	}
	if len(list) == 0 {
		return "none"
	}
	s := ""
	for i, w := range list {
		if i > 0 {
			s += ", "
		}
		for k, x := range w {
			if k > 0 {
				s += " "
			}
			s += symbols[x]
		}
		if len(w) == 0 {
			s += "()"
		}
	}
	return s
}

// wantParse holds what Parse answers against what it should.
func wantParse(t *testing.T, text string, b batch.Batch, code api.Errno, at int) {
	t.Helper()
	got, err, n := batch.Parse(text)
	if !same(got, b) || err != code || n != at {
		t.Fatalf("P22.2: Parse(%q): %s, %d at %d; it should be %s, %d at %d", brief(text), told(got), err, n, told(b), code, at)
	}
}

// wantSaid holds Parse against what the text says; and of a batch looks at all that comes of it.
func wantSaid(t *testing.T, text string) (batch.Batch, bool) {
	t.Helper()
	b, wrong := said(text)
	if wrong > 0 {
		wantParse(t, text, batch.Batch{}, api.ErrLine, wrong)
		return b, false
	}
	wantParse(t, text, b, api.OK, 0)
	wantText(t, b)
	return b, true
}

// wantText holds Text of a batch that may be against what should be written; and reads it again.
func wantText(t *testing.T, b batch.Batch) {
	t.Helper()
	got, err := batch.Text(b)
	if w := written(b); got != w || err != api.OK {
		t.Fatalf("P22.1: Text of %s: %q, %d; it should be %q", told(b), brief(got), err, brief(w))
	}
	back, err, at := batch.Parse(got)
	if !same(back, b) || err != api.OK || at != 0 {
		t.Fatalf("P22.4, P0.6: Parse of Text of %s: %s, %d at %d", told(b), told(back), err, at)
	}
}

// wantRun holds Run of a batch that may be against what should be answered, and gives it.
func wantRun(t *testing.T, b batch.Batch) []string {
	t.Helper()
	got, err := batch.Run(b)
	var want []string
	for i, q := range b.Questions {
		want = append(want, fmt.Sprintf("%d %s: %s", i+1, line(q), answer(b, q)))
	}
	if !slices.Equal(got, want) || err != api.OK {
		t.Fatalf("P22.3: Run of %s: %q, %d; it should be %q", told(b), got, err, want)
	}
	return got
}

// wantNothing looks that a batch that may not be is refused.
func wantNothing(t *testing.T, b batch.Batch) {
	t.Helper()
	if text, err := batch.Text(b); text != "" || err != api.ErrArg {
		t.Fatalf("P22.1: Text of %s: %q, %d", told(b), brief(text), err)
	}
	if list, err := batch.Run(b); len(list) > 0 || err != api.ErrArg {
		t.Fatalf("P22.3: Run of %s: %q, %d", told(b), list, err)
	}
}

// oneOf draws one of a list.
func oneOf[T any](d testkit.Draw, list ...T) T { return list[d(len(list))] }

// drawBlanks draws blanks, at least so many.
func drawBlanks(d testkit.Draw, least int) string {
	s := ""
	for range least + max(0, d(4)-1) {
		s += oneOf(d, " ", "\t")
	}
	return s
}

// drawItem draws an item that may be; now and then it is one that has no content, or no automaton.
func drawItem(d testkit.Draw, name string) batch.Item {
	if d(2) == 0 {
		return batch.Item{Name: name, Expr: true, Text: drawExpr(d)}
	}
	symbols := []string{"a", "b", "start", "c1"}[:d(4)]
	a := d.Auto(4, len(symbols))
	a.Symbols = len(symbols)
	text := lay("f", symbols, testkit.InOrder(a))
	if d(3) == 0 {
		text = strings.Replace(text, "\n", drawBlanks(d, 1)+"\n \n\n", 1) + "\n\t\n"
	}
	return batch.Item{Name: name, Text: text}
}

func drawExpr(d testkit.Draw) string {
	switch d(12) {
	case 0:
		return "(" + strings.Repeat("a|", 255) + "a)*" // too many edges
	case 1:
		return strings.Repeat("b|", 280) + "a" // more states than a file may have
	}
	symbols := []string{"a", "b", "c1"}
	text, _ := regex.Print(d.Expr(9, 3), symbols)
	if d(2) == 0 {
		text = strings.ReplaceAll(text, " ", oneOf(d, "  ", "\t", " \t "))
	}
	return text
}

func drawWord(d testkit.Draw) string {
	if d(6) == 0 {
		return oneOf(d, "", "()", "a ()", "zz", "#", "a-b", "a\r", "\x00", "\xff", "end", "é")
	}
	var list []string
	for range d(4) {
		list = append(list, oneOf(d, "a", "b", "c1"))
	}
	return strings.Join(list, oneOf(d, " ", "\t", "  "))
}

func drawQuestion(d testkit.Draw, items []batch.Item) batch.Question {
	q := batch.Question{Kind: batch.Kind(1 + d(8)), A: oneOf(d, items...).Name}
	switch q.Kind {
	case batch.Included, batch.Equals:
		q.B = oneOf(d, items...).Name
	case batch.Takes:
		q.Word = drawWord(d)
	case batch.Words, batch.Lengths:
		q.N = d(7)
	}
	return q
}

// drawBatch draws one that may be.
func drawBatch(d testkit.Draw) batch.Batch {
	b := batch.Batch{Budget: oneOf(d, 0, 0, 1, 2, 5, 20)}
	for _, name := range []string{"x", "f", "y_1", "end", "'"}[:1+d(5)] {
		b.Items = append(b.Items, drawItem(d, name))
	}
	for range d(7) {
		b.Questions = append(b.Questions, drawQuestion(d, b.Items))
	}
	return b
}
