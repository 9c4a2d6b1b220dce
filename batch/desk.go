package batch

import (
	"cmp"
	"errors"
	"strconv"
	"strings"

	"wordset/api"
	"wordset/count"
	"wordset/decide"
	"wordset/nfa"
	"wordset/witness"
)

// desk answers the questions of one batch.
type desk struct {
	items    shelf
	budget   int
	contents map[string]content // by the items' names, of all that have been asked about
}

func newDesk(items shelf, budget int) *desk {
	return &desk{items: items, budget: budget, contents: map[string]content{}}
}

// content finds an item's content when it is asked about for the first time: of an expression that nobody asks about it would be found for nothing.
func (d *desk) content(name string) content {
	c, found := d.contents[name]
	if !found {
		c = contentOf(d.items[name])
		d.contents[name] = c
	}
	return c
}

// answer gives what stands behind a question's line.
func (d *desk) answer(q Question) string {
	k, _ := rowOf(func(k row) bool { return k.kind == q.Kind })
	text, err := k.answer(d, q)
	var r refusal
	if errors.As(err, &r) {
		return "error " + strconv.Itoa(int(r.code))
	}
	return text
}

// refusal wraps the number of what kept a question from an answer.
type refusal struct{ code api.Errno }

func (r refusal) Error() string { return "no answer: number " + strconv.Itoa(int(r.code)) }

// refused gives no error where nothing was refused.
func refused(code api.Errno) error {
	if code == api.OK {
		return nil
	}
	return refusal{code}
}

// decided answers a query of decide about A, and B if there is one.
func decided(query int) func(*desk, Question) (string, error) {
	return func(d *desk, q Question) (string, error) {
		second := q.A
		if q.B != "" {
			second = q.B
		}
		a, b := d.content(q.A), d.content(second)
		if err := cmp.Or(a.noText, b.noText); err != nil {
			return "", err
		}
		l := api.Limits{States: api.FileStates, Symbols: api.FileSymbols, Rules: api.FileRules, Budget: d.budget}
		return strings.TrimSuffix(decide.Text(decide.Run(a.text, b.text, query, l)), "\n"), nil
	}
}

// ofAuto answers by A's automaton alone.
func ofAuto(answer func(c content, q Question, budget int) (string, api.Errno)) func(*desk, Question) (string, error) {
	return func(d *desk, q Question) (string, error) {
		c := d.content(q.A)
		if c.noAuto != nil {
			return "", c.noAuto
		}
		text, code := answer(c, q, d.budget)
		return text, refused(code)
	}
}

func takes(c content, q Question, _ int) (string, api.Errno) {
	w, problem := witness.Read(q.Word, c.symbols)
	if problem.Code != api.OK {
		return "", problem.Code
	}
	if taken, _ := nfa.Accepts(c.auto, w); !taken {
		return "no", api.OK
	}
	return "yes", api.OK
}

func firstWords(c content, q Question, budget int) (string, api.Errno) {
	words, err := count.First(c.auto, q.N, budget)
	if err != api.OK {
		return "", err
	}
	if len(words) == 0 {
		return "none", api.OK
	}
	texts := make([]string, len(words))
	for i, w := range words {
		texts[i], _ = witness.Render(w, c.symbols)
	}
	return strings.Join(texts, ", "), api.OK
}

func lengths(c content, q Question, budget int) (string, api.Errno) {
	numbers, err := count.ByLength(c.auto, q.N, budget)
	return strings.Join(numbers, " "), err
}

func size(c content, _ Question, _ int) (string, api.Errno) {
	return strconv.Itoa(c.auto.States) + " states, " + strconv.Itoa(c.auto.Symbols) + " symbols, " + strconv.Itoa(len(c.auto.Edges)) + " edges", api.OK
}
