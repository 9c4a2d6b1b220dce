package batch

import (
	"strconv"
	"strings"

	"wordset/api"
)

// mostWords is the greatest number of words that a question may ask for.
const mostWords = 1000

// row is what there is to know of a kind of question.
type row struct {
	kind   Kind
	word   string // with which its line begins
	tail   tail
	answer func(d *desk, q Question) (string, error)
}

// tail is what stands behind A in a question's line: how it is written, and how it is read.
type tail struct {
	write func(q Question) string
	read  func(q *Question, text string) bool
}

// kinds is the table of all kinds.
func kinds() []row {
	return []row{
		{Empty, "empty", nothing(), decided(0)},
		{Universal, "universal", nothing(), decided(1)},
		{Included, "included", another(), decided(2)},
		{Equals, "equals", another(), decided(3)},
		{Takes, "takes", word(), ofAuto(takes)},
		{Words, "words", upTo(mostWords), ofAuto(firstWords)},
		{Lengths, "lengths", upTo(api.MaxLength), ofAuto(lengths)},
		{Size, "size", nothing(), ofAuto(size)},
	}
}

func nothing() tail {
	return tail{
		write: func(Question) string { return "" },
		read:  func(_ *Question, text string) bool { return text == "" },
	}
}

func another() tail {
	return tail{
		write: func(q Question) string { return q.B },
		read: func(q *Question, text string) bool {
			q.B = text
			return text != ""
		},
	}
}

func word() tail {
	return tail{
		write: func(q Question) string { return q.Word },
		read: func(q *Question, text string) bool {
			q.Word = text
			return trimmed(text) == text && !strings.Contains(text, "\n")
		},
	}
}

func upTo(most int) tail {
	return tail{
		write: func(q Question) string { return strconv.Itoa(q.N) },
		read: func(q *Question, text string) (ok bool) {
			q.N, ok = number(text, 0, most)
			return ok
		},
	}
}

// rowOf finds the row of a kind, or of a line's first word.
func rowOf(is func(row) bool) (row, bool) {
	for _, k := range kinds() {
		if is(k) {
			return k, true
		}
	}
	return row{}, false
}

// lineOf gives a question's line; of a kind that is none the empty one, which asks nothing.
func lineOf(q Question) string {
	k, ok := rowOf(func(k row) bool { return k.kind == q.Kind })
	if !ok {
		return ""
	}
	line := k.word + " " + q.A
	if behind := k.tail.write(q); behind != "" {
		line += " " + behind
	}
	return line
}

// question reads a line that asks about these items.
func (s shelf) question(line string) (Question, bool) {
	first, rest := cut(line)
	k, ok := rowOf(func(k row) bool { return k.word == first })
	if !ok {
		return Question{}, false
	}
	name, behind := cut(rest)
	q := Question{Kind: k.kind, A: name}
	ok = k.tail.read(&q, behind) && s.has(q.A) && (q.B == "" || s.has(q.B))
	return q, ok
}

// mayAsk tells whether a question may be about these items: just those may be that their lines say, whole.
func (s shelf) mayAsk(q Question) bool {
	said, ok := s.question(lineOf(q))
	return ok && said == q
}
