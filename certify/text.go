package certify

import (
	"strconv"
	"strings"

	"wordset/api"
)

const (
	headWord = "certificate "
	pairWord = "pair "
)

func textOf(c api.Cert) string {
	text := addLine(nil, headWord, len(c.Pairs))
	for _, x := range c.Pairs {
		text = addLine(text, pairWord, x.State, x.Set...)
	}
	return string(text)
}

func addLine(text []byte, word string, first int, others ...int) []byte {
	text = strconv.AppendInt(append(text, word...), int64(first), 10)
	for _, n := range others {
		text = strconv.AppendInt(append(text, ' '), int64(n), 10)
	}
	return append(text, '\n')
}

// reader reads a certificate's text. Where it stops, the line is wrong.
type reader struct {
	text string
	line int // where the line that is read begins
	at   int
}

func (r *reader) cert() (api.Cert, bool) {
	var c api.Cert
	count, ok := r.numberBehind(headWord, api.MaxCert)
	if !ok || !r.endLine() {
		return c, false
	}
	for range count {
		x, ok := r.pair()
		if !ok || !r.endLine() {
			return c, false
		}
		c.Pairs = append(c.Pairs, x)
	}
	return c, r.at == len(r.text)
}

func (r *reader) pair() (api.Pair, bool) {
	state, ok := r.numberBehind(pairWord, api.MaxStates-1)
	if !ok {
		return api.Pair{}, false
	}
	x := api.Pair{State: state}
	least := 0
	for r.follows(" ") {
		n, ok := r.numberBehind(" ", api.MaxStates-1)
		if !ok || n < least {
			return api.Pair{}, false
		}
		x.Set = append(x.Set, n)
		least = n + 1
	}
	return x, true
}

func (r *reader) follows(item string) bool { return strings.HasPrefix(r.text[r.at:], item) }

// pass goes past an item, if it follows.
func (r *reader) pass(item string) bool {
	if !r.follows(item) {
		return false
	}
	r.at += len(item)
	return true
}

func (r *reader) endLine() bool {
	if !r.pass("\n") {
		return false
	}
	r.line = r.at
	return true
}

// numberBehind reads an item and, behind it, a number that is at most so great.
func (r *reader) numberBehind(item string, most int) (int, bool) {
	if !r.pass(item) {
		return 0, false
	}
	begin, n := r.at, 0
	for r.at < len(r.text) && '0' <= r.text[r.at] && r.text[r.at] <= '9' {
		n = 10*n + int(r.text[r.at]-'0')
		r.at++
		if n > most {
			return 0, false
		}
	}
	digits := r.text[begin:r.at]
	return n, digits != "" && (digits[0] != '0' || digits == "0")
}
