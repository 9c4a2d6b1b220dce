package format_test

import (
	"math/rand/v2"
	"regexp"
	"slices"
	"strconv"
	"strings"

	"wordset/api"
)

// wholeFile is the document's grammar, once more, as one expression over a text and the line feed behind it.
var wholeFile = regexp.MustCompile(strings.NewReplacer("BLANKS", `[ \t]+`, "END", `[ \t]*\n`, "EMPTY", `([ \t]*\n)*`, "NAME", `[A-Za-z0-9_']{1,16}`).Replace(
	`\AEMPTYOps(BLANKSNAME:[01])*ENDEMPTYAutomatonBLANKSNAMEENDEMPTYStates(BLANKSNAME)*END` +
		`EMPTYFinal States(BLANKSNAME)*ENDEMPTYTransitionsEND(NAME\((NAME)?\)(BLANKS)?->(BLANKS)?NAMEEND|END)*\z`))

var wholeRule = regexp.MustCompile(`^(.*)\((.*)\)[ \t]*->[ \t]*(.*)$`)

// text is a text with ";" for line feeds, as in the document's examples.
func text(s string) string { return strings.ReplaceAll(s, ";", "\n") }

// same compares contents; empty lists may be nil.
func same(a, b api.File) bool {
	return a.Title == b.Title && slices.Equal(a.Ops, b.Ops) && slices.Equal(a.States, b.States) && slices.Equal(a.Final, b.Final) && slices.Equal(a.Rules, b.Rules)
}

// clone gives a content with lists of its own.
func clone(f api.File) api.File {
	return api.File{Title: f.Title, Ops: slices.Clone(f.Ops), States: slices.Clone(f.States), Final: slices.Clone(f.Final), Rules: slices.Clone(f.Rules)}
}

// once appends what is not there yet.
func once[T comparable](list []T, items ...T) []T {
	for _, item := range items {
		if !slices.Contains(list, item) {
			list = append(list, item)
		}
	}
	return list
}

func arityOf(r api.Rule) int {
	if r.From == "" {
		return 0
	}
	return 1
}

// meant gives the content of what was written: the lists as they stand in a text, with doubles and names that are not declared.
func meant(w api.File) api.File {
	f := api.File{Title: w.Title, Ops: once(nil, w.Ops...), States: once(nil, w.States...), Rules: once(nil, w.Rules...)}
	f.States = once(f.States, w.Final...)
	for _, r := range w.Rules {
		f.Ops = once(f.Ops, api.Op{Name: r.Op, Arity: arityOf(r)})
		if r.From != "" {
			f.States = once(f.States, r.From)
		}
		f.States = once(f.States, r.To)
	}
	for _, name := range f.States {
		if slices.Contains(w.Final, name) {
			f.Final = append(f.Final, name)
		}
	}
	return f
}

// modelRead reads a text that is a file.
func modelRead(s string) api.File {
	var w api.File
	n := 0
	for _, line := range strings.Split(s, "\n") {
		line = strings.Trim(line, " \t")
		if line == "" {
			continue
		}
		fields := strings.Fields(line)
		switch n++; n {
		case 1:
			for _, op := range fields[1:] {
				name, arity, _ := strings.Cut(op, ":")
				w.Ops = append(w.Ops, api.Op{Name: name, Arity: strings.Index("01", arity)})
			}
		case 2:
			w.Title = fields[1]
		case 3:
			w.States = fields[1:]
		case 4:
			w.Final = fields[2:]
		case 5:
		default:
			m := wholeRule.FindStringSubmatch(line)
			w.Rules = append(w.Rules, api.Rule{Op: m[1], From: m[2], To: m[3]})
		}
	}
	return meant(w)
}

// layout lays a text out: what stands for one or more blanks, for blanks that may be none, and for the lines ahead of a line.
type layout struct {
	gap, room func() string
	lines     func() string
}

// plain is the canonical layout; loose draws one.
func plain() layout {
	return layout{gap: func() string { return " " }, room: func() string { return "" }, lines: func() string { return "" }}
}

func loose(r *rand.Rand) layout {
	blanks := func(least int) string {
		var b strings.Builder
		for range least + r.IntN(3) {
			b.WriteByte(" \t"[r.IntN(2)])
		}
		return b.String()
	}
	return layout{
		gap:  func() string { return blanks(1) },
		room: func() string { return blanks(0) },
		lines: func() string {
			var b strings.Builder
			for range max(0, r.IntN(5)-2) {
				b.WriteString(blanks(0) + "\n")
			}
			return b.String()
		},
	}
}

// lay writes lists, as they stand, as a text.
func lay(w api.File, l layout, arrow func() string) string {
	var b strings.Builder
	line := func(head string, items []string) {
		b.WriteString(l.lines() + head)
		for _, item := range items {
			b.WriteString(l.gap() + item)
		}
		b.WriteString(l.room() + "\n")
	}
	var ops []string
	for _, op := range w.Ops {
		ops = append(ops, op.Name+":"+strconv.Itoa(op.Arity))
	}
	line("Ops", ops)
	line("Automaton", []string{w.Title})
	line("States", w.States)
	line("Final States", w.Final)
	line("Transitions", nil)
	for _, r := range w.Rules {
		line(r.Op+"("+r.From+")"+arrow()+r.To, nil)
	}
	b.WriteString(l.lines())
	return b.String()
}

func canonical(f api.File) string { return lay(f, plain(), func() string { return " -> " }) }

func scattered(r *rand.Rand, w api.File) string {
	l := loose(r)
	return lay(w, l, func() string { return l.room() + "->" + l.room() })
}

// drawn draws lists as they may stand in a text, out of few names, so that much stands twice.
func drawn(r *rand.Rand, pool []string) api.File {
	name := func() string { return pool[r.IntN(len(pool))] }
	some := func() []string {
		list := make([]string, r.IntN(6))
		for i := range list {
			list[i] = name()
		}
		return list
	}
	w := api.File{Title: name(), States: some(), Final: some()}
	for _, op := range some() {
		w.Ops = append(w.Ops, api.Op{Name: op, Arity: r.IntN(2)})
	}
	for range r.IntN(10) {
		rule := api.Rule{Op: name(), To: name()}
		if r.IntN(3) > 0 {
			rule.From = name()
		}
		w.Rules = append(w.Rules, rule)
	}
	return w
}

func isName(s string) bool {
	bad := func(c rune) bool {
		return !strings.ContainsRune("ABCDEFGHIJKLMNOPQRSTUVWXYZabcdefghijklmnopqrstuvwxyz0123456789_'", c)
	}
	return len(s) > 0 && len(s) <= 16 && !strings.ContainsFunc(s, bad)
}

// mayBe is the chapter's 'A content may be', told with no numbers: a content is what its own lists mean, if all names are names.
func mayBe(f api.File) bool {
	listed := append([]string{f.Title}, f.States...)
	for _, op := range f.Ops {
		listed = append(listed, op.Name)
		if op.Arity != 0 && op.Arity != 1 {
			return false
		}
	}
	return same(meant(f), f) && !slices.ContainsFunc(listed, func(s string) bool { return !isName(s) })
}

// modelAuto gives the automaton of a content that may be, by going through all that could be in it.
func modelAuto(f api.File) (api.Auto, []string) {
	var symbols []string
	starts := map[string]bool{}
	for _, op := range f.Ops {
		if op.Arity == 1 {
			symbols = append(symbols, op.Name)
		}
	}
	rules := map[api.Rule]bool{}
	for _, r := range f.Rules {
		rules[r] = true
		starts[r.To] = starts[r.To] || r.From == ""
	}
	a := api.Auto{States: len(f.States), Symbols: len(symbols)}
	for i, p := range f.States {
		if starts[p] {
			a.Start = append(a.Start, i)
		}
		if slices.Contains(f.Final, p) {
			a.Final = append(a.Final, i)
		}
		for k, s := range symbols {
			for j, q := range f.States {
				if rules[api.Rule{Op: s, From: p, To: q}] {
					a.Edges = append(a.Edges, api.Edge{From: i, Sym: k, To: j})
				}
			}
		}
	}
	return a, symbols
}
