package batch

import (
	"math"
	"slices"
	"strings"

	"wordset/api"
	"wordset/grammar"
)

// reader goes through the lines of a text.
type reader struct {
	lines []string
	at    int  // the number of the line at hand, from 1 on
	begun bool // whether a line ahead of it has said something
	items shelf
	batch Batch
}

func newReader(text string) *reader {
	return &reader{lines: strings.Split(text, "\n"), items: shelf{}}
}

// readAll gives the number of the first line that may not stand there, 0 if there is none.
func (r *reader) readAll() int {
	for r.at < len(r.lines) {
		line := trimmed(r.lines[r.at])
		r.at++
		if line == "" || line[0] == '#' {
			continue
		}
		if wrong := r.read(line); wrong > 0 {
			return wrong
		}
		r.begun = true
	}
	return 0
}

// read takes what a line says, of a file's with all lines that are the file's, and gives the number of the wrong one.
func (r *reader) read(line string) int {
	first, rest := cut(line)
	var ok bool
	switch first {
	case fileWord:
		return r.file(rest)
	case budgetWord:
		ok = r.budget(rest)
	case exprWord:
		ok = r.expr(rest)
	default:
		ok = r.question(line)
	}
	if !ok {
		return r.at
	}
	return 0
}

func (r *reader) budget(text string) (ok bool) {
	r.batch.Budget, ok = number(text, 1, math.MaxInt)
	return ok && !r.begun
}

func (r *reader) expr(rest string) bool {
	name, text := cut(rest)
	it := Item{Name: name, Expr: true, Text: text}
	if !r.items.mayHave(it) {
		return false
	}
	r.keep(it)
	return true
}

func (r *reader) keep(it Item) {
	r.items[it.Name] = it
	r.batch.Items = append(r.batch.Items, it)
}

func (r *reader) question(line string) bool {
	q, ok := r.items.question(line)
	if !ok || len(r.batch.Questions) == api.MaxAsks {
		return false
	}
	r.batch.Questions = append(r.batch.Questions, q)
	return true
}

// file takes the lines up to a file's end.
func (r *reader) file(name string) int {
	if !r.items.free(name) {
		return r.at
	}
	behind := r.lines[r.at:]
	end := slices.IndexFunc(behind, func(line string) bool { return trimmed(line) == endWord })
	if end < 0 {
		return len(r.lines)
	}
	var text strings.Builder
	for _, line := range behind[:end] {
		text.WriteString(line)
		text.WriteByte('\n')
	}
	if at, err := grammar.Check(text.String()); err != api.OK {
		return r.at + 1 + strings.Count(text.String()[:at], "\n")
	}
	r.keep(Item{Name: name, Text: text.String()})
	r.at += end + 1
	return 0
}
