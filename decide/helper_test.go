package decide_test

import (
	"fmt"
	"slices"
	"strconv"
	"strings"
	"testing"

	"wordset/antichain"
	"wordset/api"
	"wordset/congr"
	"wordset/decide"
	"wordset/testkit"
	"wordset/trim"
)

const lowest, greatest = -1 << 63, 1<<63 - 1

const both, first, second = 0, 1, 2

// options are all that With can be asked with; the last are those of Run.
var options = []api.Options{{}, {Simul: true}, {Trim: true}, {Trim: true, Simul: true}}

// wide has the greatest limits.
var wide = api.Limits{States: api.FileStates, Symbols: api.FileSymbols, Rules: api.FileRules}

func budget(n int) api.Limits {
	l := wide
	l.Budget = n
	return l
}

// source is an automaton with names, of which the text of a file is made; doubles stand in the text too.
type source struct {
	auto            api.Auto
	states, symbols []string
}

// numbered gives an automaton's states the names q0, q1 ..
func numbered(a api.Auto, symbols ...string) source {
	s := source{auto: a, symbols: symbols}
	for p := range a.States {
		s.states = append(s.states, "q"+strconv.Itoa(p))
	}
	return s
}

func (s source) text() string { return lay("t", s.symbols, s.states, s.finals(), s.rules()) }

func (s source) finals() []string {
	var list []string
	for _, p := range s.auto.Final {
		list = append(list, s.states[p])
	}
	return list
}

func (s source) rules() []string {
	var list []string
	for _, p := range s.auto.Start {
		list = append(list, "start() -> "+s.states[p])
	}
	for _, e := range s.auto.Edges {
		list = append(list, fmt.Sprintf("%s(%s) -> %s", s.symbols[e.Sym], s.states[e.From], s.states[e.To]))
	}
	return list
}

// lay writes the lines of a file.
func lay(title string, symbols, states, finals, rules []string) string {
	lines := []string{"Ops", "Automaton " + title, "States", "Final States", "Transitions"}
	for _, name := range symbols {
		lines[0] += " " + name + ":1"
	}
	for _, name := range states {
		lines[2] += " " + name
	}
	for _, name := range finals {
		lines[3] += " " + name
	}
	return strings.Join(append(lines, rules...), "\n") + "\n"
}

// merged says what the automata over the merged alphabet are, and its names.
func merged(a, b source) (api.Auto, api.Auto, []string) {
	all := slices.Clone(a.symbols)
	for _, name := range b.symbols {
		if !slices.Contains(all, name) {
			all = append(all, name)
		}
	}
	return a.over(all), b.over(all), all
}

func (s source) over(all []string) api.Auto {
	x := api.Auto{States: s.auto.States, Symbols: len(all), Start: s.auto.Start, Final: s.auto.Final}
	for _, e := range s.auto.Edges {
		x.Edges = append(x.Edges, api.Edge{From: e.From, Sym: slices.Index(all, s.symbols[e.Sym]), To: e.To})
	}
	return x
}

// question is what the engines should be asked.
type question struct {
	query int
	a, b  api.Auto
}

func questionOf(query int, a, b source, trimmed bool) question {
	part := func(x api.Auto) api.Auto {
		if trimmed {
			x, _, _ = trim.Trim(x)
		}
		return x
	}
	x, y, all := merged(a, b)
	switch query {
	case 0:
		return question{query, part(x), api.Auto{Symbols: len(all)}}
	case 1:
		every := testkit.Auto(1, len(a.symbols), []int{0}, []int{0})
		for k := range a.symbols {
			every.Edges = append(every.Edges, api.Edge{Sym: k})
		}
		return question{query, every, part(a.auto)}
	}
	return question{query, part(x), part(y)}
}

// answer is what an engine should answer, and how many pairs its searches have, each.
type answer struct {
	found api.Found
	pairs []int
}

func (q question) antichains(simul bool) answer {
	there, _ := antichain.Includes(q.a, q.b, simul, 0)
	if q.query < 3 {
		if q.query < 2 {
			there.Side = 0
		}
		return answer{there, []int{there.Pairs}}
	}
	back, _ := antichain.Includes(q.b, q.a, simul, 0)
	found := api.Found{Yes: there.Yes && back.Yes, Has: there.Has || back.Has, Pairs: there.Pairs + back.Pairs}
	switch {
	case found.Yes:
	case back.Yes, there.Has && len(there.Word) <= len(back.Word):
		found.Word, found.Side = there.Word, 1
	default:
		found.Word, found.Side = back.Word, 2
	}
	return answer{found, []int{there.Pairs, back.Pairs}}
}

func (q question) congruence(o api.Options) answer {
	found, _ := congr.Include(q.a, q.b, o, 0)
	if q.query == 3 {
		found, _ = congr.Equal(q.a, q.b, o, 0)
	}
	if q.query < 2 {
		found.Side = 0
	}
	return answer{found, []int{found.Pairs}}
}

// by says what should be answered without a budget, and how many pairs the searches have that are asked.
func (q question) by(engine int, o api.Options) answer {
	chains, congruence := q.antichains(o.Simul), q.congruence(o)
	switch engine {
	case first:
		return chains
	case second:
		return congruence
	}
	return answer{chains.found, append(chains.pairs, congruence.pairs...)}
}

// shows says whether a word that just these of both take shows the no of a query from 0 to 3.
func shows(query int, inFirst, inSecond bool) bool {
	return query == 0 && inFirst || query == 1 && !inFirst || query == 2 && inFirst && !inSecond || query == 3 && inFirst != inSecond
}

// shortest says how long the shortest words are that show a no, -1: the answer is yes. Of query 1 words have the first one's own symbols alone.
func shortest(query int, a, b source) int {
	x, y, _ := merged(a, b)
	if query == 1 {
		x, y = a.auto, api.Auto{Symbols: a.auto.Symbols}
	}
	return testkit.Shortest(x, y, func(inFirst, inSecond bool) bool { return shows(query, inFirst, inSecond) })
}

func sameOutcome(o, p api.Outcome) bool {
	return o.Code == p.Code && o.File == p.File && o.Offset == p.Offset && testkit.SameFound(o.Found, p.Found) && slices.Equal(o.Names, p.Names)
}

// want asks With; and Run, if that should answer the same.
func want(t *testing.T, a, b string, query int, l api.Limits, o api.Options, engine int, w api.Outcome) {
	t.Helper()
	if got := decide.With(a, b, query, l, o, engine); !sameOutcome(got, w) {
		t.Fatalf("P20.1: query %d by engine %d with %+v, %+v of\n%s%s\n%+v; it should be %+v", query, engine, o, l, brief(a), brief(b), got, w)
	}
	if o != options[3] || engine == first || engine == second {
		return
	}
	if got := decide.Run(a, b, query, l); !sameOutcome(got, w) {
		t.Fatalf("P20.2: query %d with %+v of\n%s%s\n%+v; it should be %+v", query, l, brief(a), brief(b), got, w)
	}
}

// wantAll asks by all queries, engines and options.
func wantAll(t *testing.T, a, b string, l api.Limits, w api.Outcome) {
	t.Helper()
	for query := range 4 {
		for engine := range 3 {
			for _, o := range options {
				want(t, a, b, query, l, o, engine, w)
			}
		}
	}
}

// brief is a text, of what is long just the beginning.
func brief(s string) string {
	if len(s) > 1000 {
		return s[:1000] + " ..\n"
	}
	return s
}

// order draws the numbers below n in any order.
func order(d testkit.Draw, n int) []int {
	list := testkit.Upto(n)
	for i := range list {
		k := i + d(n-i)
		list[i], list[k] = list[k], list[i]
	}
	return list
}

// named gives an automaton names; those of its symbols come from a pool.
func named(d testkit.Draw, a api.Auto, pool ...string) source {
	var symbols []string
	for _, i := range order(d, len(pool))[:a.Symbols] {
		symbols = append(symbols, pool[i])
	}
	return numbered(a, symbols...)
}

// reordered gives a source with the same words whose symbols are declared in another order.
func reordered(d testkit.Draw, s source) source {
	from := order(d, len(s.symbols))
	r := source{auto: s.auto, states: s.states}
	r.auto.Edges = nil
	for _, k := range from {
		r.symbols = append(r.symbols, s.symbols[k])
	}
	for _, e := range s.auto.Edges {
		r.auto.Edges = append(r.auto.Edges, api.Edge{From: e.From, Sym: slices.Index(from, e.Sym), To: e.To})
	}
	return r
}

// late gives two sources with the same words. In the first a state leads on by both symbols, which two states of the second do, one each; from there on, n steps, all is alike, which simulation sees at once.
func late(n int) (source, source) {
	a := testkit.Auto(n+1, 2, []int{0}, []int{n}, 0, 1, 1)
	for p := range n {
		a.Edges = append(a.Edges, api.Edge{From: p, To: p + 1})
	}
	b := api.Auto{States: n + 2, Symbols: 2, Start: []int{0, n + 1}, Final: []int{n}, Edges: slices.Clone(a.Edges)}
	b.Edges[0].From = n + 1
	return numbered(a, "a", "b"), numbered(b, "a", "b")
}

// cluttered gives an automaton with the same words: some states more, to which edges lead, and from which none leads back.
func cluttered(d testkit.Draw, a api.Auto) api.Auto {
	old := a.States
	a.States += 1 + d(3)
	a.Edges = slices.Clone(a.Edges)
	for range 2 * a.States * min(a.Symbols, 1) {
		a.Edges = append(a.Edges, api.Edge{From: d(a.States), Sym: d(a.Symbols), To: old + d(a.States-old)})
	}
	return d.Renumbered(a)
}

// drawTwo draws two sources of one of several kinds: unlike ones, over symbols of which they share some, and those that are nearly the same.
func drawTwo(d testkit.Draw) (source, source) {
	pool := []string{"a", "b", "start", "q0"}
	var x, y api.Auto
	switch d(6) {
	case 0:
		return named(d, d.Auto(5, 3), pool...), named(d, d.Auto(5, 3), pool...)
	case 1:
		return named(d, d.Kin(d(5), 2), pool[:3]...), named(d, d.Kin(1+d(4), 2), pool[:3]...)
	case 2:
		x, y = d.Related(4, 2)
	case 3:
		x, y = d.Hidden(1+d(3), 3+d(4))
	case 4:
		x, y = d.Hidden(1, 5+d(5))
	case 5:
		x, _ = d.Hidden(3+d(3), 2)
		y, _ = d.Hidden(3+d(3), 2)
	}
	if d(3) == 0 {
		x, y = cluttered(d, x), cluttered(d, y)
	}
	if d(2) == 0 {
		x, y = y, x
	}
	a := named(d, x, pool...)
	return a, reordered(d, numbered(y, a.symbols...))
}

func renamed(list []string, anew map[string]string) []string {
	var out []string
	for _, name := range list {
		out = append(out, anew[name])
	}
	return out
}

// otherwise gives the text of a file with the same words but for its symbols' names: with other states, another title, in another order, with doubles, laid out otherwise, and some states declared by their use alone.
func otherwise(d testkit.Draw, s source, anew map[string]string) string {
	s.auto = d.Renumbered(d.Shuffled(s.auto))
	s.symbols = renamed(s.symbols, anew)
	s.states = nil
	head := []string{"p", "'", "States", "7"}[d(4)]
	for _, p := range order(d, s.auto.States) {
		s.states = append(s.states, head+strconv.Itoa(p))
	}
	rules := s.rules()
	for i, k := range order(d, len(rules)) {
		rules[i], rules[k] = rules[k], rules[i]
	}
	var declared []string
	for _, name := range append(s.states, s.states...) {
		if d(3) == 0 {
			declared = append(declared, name)
		}
	}
	return loose(d, lay("Ops", s.symbols, declared, s.finals(), rules))
}

// loose lays a file's text out otherwise.
func loose(d testkit.Draw, text string) string {
	blanks := func(least int) string {
		var b strings.Builder
		for range least + d(3) {
			b.WriteByte(" \t"[d(2)])
		}
		return b.String()
	}
	var b strings.Builder
	for line := range strings.Lines(strings.ReplaceAll(text, "Final States", "Final-States")) {
		for range max(0, d(5)-2) {
			b.WriteString(blanks(0) + "\n")
		}
		if from, to, ok := strings.Cut(line, " -> "); ok {
			line = from + blanks(0) + "->" + blanks(0) + to
		} else {
			words := strings.Fields(line)
			line = words[0]
			for _, word := range words[1:] {
				line += blanks(1) + word
			}
		}
		b.WriteString(strings.TrimRight(line, "\n") + blanks(0) + "\n")
	}
	text = strings.ReplaceAll(b.String(), "Final-States", "Final States")
	if d(2) == 0 {
		text = text[:len(text)-1]
	}
	return text
}
