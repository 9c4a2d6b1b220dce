package decide_test

import (
	"math/rand/v2"
	"slices"
	"strconv"
	"strings"
	"testing"

	"wordset/api"
	"wordset/decide"
	"wordset/grammar"
	"wordset/names"
	"wordset/testkit"
)

const plainFile = "Ops\nAutomaton S\nStates p\nFinal States\nTransitions\n"

// TestExamplesOfRefusals: the document's.
func TestExamplesOfRefusals(t *testing.T) {
	one := wide
	one.States = 1
	for _, c := range []struct {
		a, b  string
		query int
		l     api.Limits
		want  string
	}{
		{"Ops a:2", fileB, 0, wide, "error parse 1 6\n"}, {fileA, "", 0, wide, "error parse 2 0\n"}, {"Ops a:2", "Ops a:2", 0, wide, "error parse 1 6\n"},
		{"", "Ops a:2", 3, wide, "error parse 1 0\n"}, {fileA, "Ops a:2", 1, wide, "error parse 2 6\n"},
		{fileA, fileB, 0, one, "error limit 1\n"}, {fileA, "Ops", 0, one, "error parse 2 3\n"}, {plainFile, fileB, 0, one, "error limit 2\n"},
		{fileB, fileA, 1, budget(1), "error budget\n"}, {plainFile, plainFile, 3, one, "yes 0\n"},
	} {
		if text := decide.Text(decide.Run(c.a, c.b, c.query, c.l)); text != c.want {
			t.Errorf("P20.1: query %d with %+v: %q, want %q", c.query, c.l, text, c.want)
		}
	}
}

// TestNoFile: each beginning of a file, and each with a byte changed: where the grammar refuses it, in whichever place it stands; the first file goes ahead, and both ahead of all limits.
func TestNoFile(t *testing.T) {
	var texts []string
	for i := range fileA {
		texts = append(texts, fileA[:i], fileA[:i]+"~"+fileA[i+1:], fileA[:i]+"\n"+fileA[i:], fileA[:i]+" "+fileA[i:])
	}
	texts = append(texts, "\x00", "\xff\xfe", "Ops\r\n", fileA+"x", fileA+fileA, strings.Repeat(" \n", 5000)+"Ops a:3")
	none := 0
	for i, text := range texts {
		query, engine, o := i%4, i%3, options[i/2%4]
		at, err := grammar.Check(text)
		if err == api.OK {
			if w := decide.With(text, fileB, query, wide, o, engine); w.Code != api.OK || w.Found.Yes == w.Found.Has {
				t.Fatalf("P20.5: %q is a file: %+v", text, w)
			}
			continue
		}
		none++
		for _, l := range []api.Limits{wide, {}, {States: -1, Symbols: -1, Rules: -1, Budget: 1}} {
			wrong := func(file int) api.Outcome { return api.Outcome{Code: api.ErrParse, File: file, Offset: at} }
			want(t, text, fileB, query, l, o, engine, wrong(1))
			want(t, fileB, text, query, l, o, engine, wrong(2))
			want(t, text, "Ops b:2", query, l, o, engine, wrong(1))
			want(t, "Ops b:2", text, query, l, o, engine, api.Outcome{Code: api.ErrParse, File: 1, Offset: 6})
		}
	}
	if none < 200 {
		t.Errorf("P20.1: only %d texts were no file", none)
	}
	wantAll(t, fileA, "Opt", wide, api.Outcome{Code: api.ErrParse, File: 2, Offset: 2})
	wantAll(t, "Opt", fileA, wide, api.Outcome{Code: api.ErrParse, File: 1, Offset: 2})
}

// counting gives the text of a file with so many states, symbols and rules, each told twice, among many things that do not count. (The rules' ops and states must suffice.)
func counting(states, symbols, rules int) string {
	s := source{}
	for p := range states {
		s.states = append(s.states, "p"+strconv.Itoa(p))
	}
	ops := []string{}
	for k := range symbols {
		ops = append(ops, "a"+strconv.Itoa(k))
	}
	var lines []string
	for i := range rules {
		op, rest := "start()", i
		if rest >= states {
			rest -= states
			op = ops[rest/states/states] + "(" + s.states[rest/states%states] + ")"
		}
		lines = append(lines, op+" -> "+s.states[rest%states], "", op+"->"+s.states[rest%states])
	}
	text := lay("t", append(ops, ops...), append(s.states, s.states...), s.states, append(lines, lines...))
	return strings.Replace(text, "Ops", "Ops "+strings.Repeat("start:0 a0:0 a1:0 other:0 ", 3), 1)
}

// atMost gives limits of which just one is to the purpose.
func atMost(kind, n int) api.Limits {
	l := wide
	switch kind {
	case 0:
		l.States = n
	case 1:
		l.Symbols = n
	case 2:
		l.Rules = n
	}
	return l
}

// TestLimits: a number that is a limit is allowed itself, one more is not; of each kind, of each file.
func TestLimits(t *testing.T) {
	const tame = "Ops\nAutomaton t\nStates\nFinal States\nTransitions"
	has := [3]int{3, 2, 14}
	text := counting(has[0], has[1], has[2])
	for kind, n := range has {
		for _, limit := range []int{n, n + 1, greatest} {
			for query := range 4 {
				if o := decide.Run(text, text, query, atMost(kind, limit)); o.Code != api.OK {
					t.Fatalf("P20.1: limit %d of kind %d: %+v", limit, kind, o)
				}
			}
		}
		for _, limit := range []int{n - 1, 0, -1, lowest} {
			wantAll(t, text, tame, atMost(kind, limit), api.Outcome{Code: api.ErrLimit, File: 1})
			wantAll(t, tame, text, atMost(kind, limit), api.Outcome{Code: api.ErrLimit, File: 2})
			wantAll(t, text, text, atMost(kind, limit), api.Outcome{Code: api.ErrLimit, File: 1})
		}
	}
}

// TestNoLimits: a limit below 0 counts as 0, and what has nothing is not above it.
func TestNoLimits(t *testing.T) {
	tame := "Ops start:0 a:0\nAutomaton t\nStates\nFinal States\nTransitions"
	for _, n := range []int{0, -1, -300, lowest} {
		l := api.Limits{States: n, Symbols: n, Rules: n, Budget: n}
		for query, code := range []string{"yes 0\n", "no 0 1: ()\n", "yes 0\n", "yes 0\n"} {
			if text := decide.Text(decide.Run(tame, tame, query, l)); text != code {
				t.Errorf("P20.1: query %d with limits of %d: %q", query, n, text)
			}
		}
		wantAll(t, tame, plainFile, l, api.Outcome{Code: api.ErrLimit, File: 2})
		wantAll(t, plainFile, tame, l, api.Outcome{Code: api.ErrLimit, File: 1})
		wantAll(t, tame, "Ops a:1"+tame[len("Ops start:0 a:0"):], l, api.Outcome{Code: api.ErrLimit, File: 2})
	}
}

// TestGreatestLimits: limits above the greatest count as these.
func TestGreatestLimits(t *testing.T) {
	for kind, n := range [3]int{api.FileStates, api.FileSymbols, api.FileRules} {
		least, more := counting(1, 1, 1), ""
		switch kind {
		case 0:
			least, more = counting(n, 1, 0), counting(n+1, 1, 0)
		case 1:
			least, more = counting(1, n, 1), counting(1, n+1, 1)
		case 2:
			least, more = counting(91, 1, n), counting(91, 1, n+1)
		}
		for _, limit := range []int{n, n + 1, 2 * n, greatest} {
			if o := decide.Run(least, plainFile, 0, atMost(kind, limit)); o.Code != api.OK {
				t.Fatalf("P20.1: limit %d of kind %d: %+v", limit, kind, o)
			}
			want(t, more, plainFile, 0, atMost(kind, limit), options[3], both, api.Outcome{Code: api.ErrLimit, File: 1})
			want(t, plainFile, more, 0, atMost(kind, limit), options[3], both, api.Outcome{Code: api.ErrLimit, File: 2})
		}
		want(t, least, plainFile, 0, atMost(kind, n-1), options[3], both, api.Outcome{Code: api.ErrLimit, File: 1})
	}
}

// TestFirstLimit: the first file that is above a limit is told, whichever limit it is.
func TestFirstLimit(t *testing.T) {
	many := [3]string{counting(5, 1, 0), counting(1, 5, 0), counting(1, 1, 2)}
	l := api.Limits{States: 4, Symbols: 4, Rules: 1}
	for _, a := range many {
		for _, b := range many {
			wantAll(t, a, b, l, api.Outcome{Code: api.ErrLimit, File: 1})
		}
		wantAll(t, plainFile, a, l, api.Outcome{Code: api.ErrLimit, File: 2})
	}
}

// round is a ring of as many states, symbols and rules as may be: by nearly each symbol each state leads to the next one.
func round(head string, final ...int) source {
	s := source{auto: api.Auto{States: api.FileStates, Symbols: api.FileSymbols, Start: []int{0}, Final: final}}
	for i := range api.FileRules - 1 {
		p, k := i%api.FileStates, i/api.FileStates
		s.auto.Edges = append(s.auto.Edges, api.Edge{From: p, Sym: k, To: (p + 1) % api.FileStates})
	}
	s.states, _ = names.Numbered("q", api.FileStates)
	s.symbols, _ = names.Numbered(head, api.FileSymbols)
	return s
}

// TestGreatestFiles: no symbol is in both; so there are as many as may be, and no search is refused.
func TestGreatestFiles(t *testing.T) {
	a, b, c := round("a", 0), round("b", 0), round("a", 0, 255)
	b.auto.Start, b.auto.Final = []int{1}, []int{0}
	for _, o := range []api.Options{options[0], options[3]} {
		for _, ask := range []struct {
			a, b                source
			query, length, side int
		}{{a, b, 0, 0, 0}, {b, a, 0, 255, 0}, {a, b, 1, 1, 0}, {a, b, 2, 0, 1}, {b, a, 2, 255, 1}, {a, b, 3, 0, 1}, {b, a, 3, 0, 2}, {a, c, 3, 255, 2}, {c, a, 2, 255, 1}} {
			_, _, all := merged(ask.a, ask.b)
			for engine := range 3 {
				w := decide.With(ask.a.text(), ask.b.text(), ask.query, wide, o, engine)
				if w.Code != api.OK || !slices.Equal(w.Names, all) || !w.Found.Has || w.Found.Side != ask.side || engine != second && len(w.Found.Word) != ask.length {
					t.Fatalf("P20.1: query %d, engine %d, %+v: %+v; a word of %d symbols shows the no", ask.query, engine, o, w, ask.length)
				}
			}
		}
		for engine := range 3 {
			if w := decide.With(a.text(), c.text(), 2, wide, o, engine); !w.Found.Yes || w.Found.Has {
				t.Errorf("P20.1: engine %d, %+v: %+v", engine, o, w)
			}
		}
	}
}

// TestWholeBudgetEach: each search has the whole budget, and both searches of query 3 are made to their ends: the other way round is refused, though a short word is known.
func TestWholeBudgetEach(t *testing.T) {
	many, none := numbered(testkit.Chain(6), "a"), numbered(testkit.Auto(1, 1, []int{0}, []int{0}), "a")
	// the one way a pair that is bad at once, the other way the empty word, and then five steps to the chain's end
	for _, c := range []struct {
		a, b   source
		needs  [2]int
		wanted string
	}{{many, none, [2]int{6, 1}, "no 2 7: ()\n"}, {none, many, [2]int{1, 6}, "no 1 7: ()\n"}} {
		for n := range 9 {
			o := decide.With(c.a.text(), c.b.text(), 3, budget(n), api.Options{}, first)
			if n > 0 && n < max(c.needs[0], c.needs[1]) {
				c := api.Outcome{Code: api.ErrBudget}
				if !sameOutcome(o, c) {
					t.Errorf("P20.1: with a budget of %d: %+v", n, o)
				}
			} else if text := decide.Text(o); text != c.wanted {
				t.Errorf("P20.1: with a budget of %d: %q, want %q", n, text, c.wanted)
			}
		}
	}
}

// TestOwnSymbolsAlone: query 1 asks of a file's words over its own symbols, whatever the other one has.
func TestOwnSymbolsAlone(t *testing.T) {
	every := "Ops a:1\nAutomaton t\nStates p\nFinal States p\nTransitions\ns() -> p\na(p) -> p\n"
	none := "Ops\nAutomaton t\nStates p\nFinal States p\nTransitions\ns() -> p\n"
	for _, a := range []string{every, none} {
		for engine := range 3 {
			for _, o := range options {
				if w := decide.With(a, fileB, 1, wide, o, engine); w.Code != api.OK || !w.Found.Yes || len(w.Names) != 2 {
					t.Errorf("P20.1: query 1, engine %d, %+v: %+v", engine, o, w)
				}
			}
		}
	}
}

// TestNames: the merged alphabet's, for every query, of a yes and of a no; symbols alone, those that are declared by their use too.
func TestNames(t *testing.T) {
	a := "Ops c:0 b:1 a:0\nAutomaton t\nStates\nFinal States\nTransitions\nc() -> p\nd(p) -> p\nb(p) -> p"
	b := "Ops e:1 d:1\nAutomaton t\nStates\nFinal States\nTransitions\na(q) -> q\nb(q) -> q\nc() -> q"
	for query := range 4 {
		for engine := range 3 {
			o, p := decide.With(a, b, query, wide, options[3], engine), decide.With(b, a, query, wide, options[3], engine)
			if strings.Join(o.Names, " ") != "b d e a" || strings.Join(p.Names, " ") != "e d a b" {
				t.Errorf("P20.1: query %d: %+v, %+v", query, o, p)
			}
		}
	}
}

// TestBounds: how many pairs are kept and processed, and how long words are, by the numbers of states.
func TestBounds(t *testing.T) {
	d := testkit.Draw(rand.New(rand.NewPCG(20, 6)).IntN)
	for range 300 {
		a, b := drawTwo(d)
		for query := range 4 {
			for _, o := range options {
				q := questionOf(query, a, b, o.Trim)
				n, m := q.a.States, q.b.States
				ask := func(a, b source, query, engine int) api.Found {
					return decide.With(a.text(), b.text(), query, wide, o, engine).Found
				}
				chains, congruence := ask(a, b, query, first), ask(a, b, query, second)
				most, kept := n<<m, chains.Pairs
				if query == 3 {
					most += m << n
					kept = [3]int{greatest, ask(a, b, 2, first).Pairs, ask(b, a, 2, first).Pairs}[chains.Side]
				}
				if chains.Pairs > most || chains.Has && len(chains.Word) >= kept {
					t.Fatalf("P0.5: query %d, %+v of\n%s%s%+v", query, o, a.text(), b.text(), chains)
				}
				if congruence.Pairs > 1<<(n+m)-1 || len(congruence.Word) > congruence.Pairs {
					t.Fatalf("P0.5: query %d, %+v of\n%s%s%+v", query, o, a.text(), b.text(), congruence)
				}
			}
		}
	}
}

// TestOdd: whatever it is given, each call answers one of four things, the same each time.
func TestOdd(t *testing.T) {
	d := testkit.Draw(rand.New(rand.NewPCG(20, 7)).IntN)
	pieces := []string{"Ops", " ", "a:1", "\n", "Automaton", "x", "States", "Final States", "Transitions", "a(x)->x", "s()->x", "\x00", "é", ":", fileA, fileB, plainFile}
	odd := func() string {
		text := []string{"", fileA, fileB, plainFile}[d(4)]
		if d(3) > 0 {
			return text
		}
		for range d(4) {
			at := d(len(text) + 1)
			text = text[:at] + pieces[d(len(pieces))] + text[at:]
		}
		return text
	}
	number := func() int { return []int{d.Odd(), d(10), api.FileStates}[d(3)] }
	var codes [300]int
	for range 3000 {
		a, b, query, engine := odd(), odd(), d.Odd(), d.Odd()
		l := api.Limits{States: number(), Symbols: number(), Rules: number(), Budget: d.Odd()}
		o := decide.With(a, b, query, l, options[d(4)], engine)
		codes[o.Code]++
		right := false
		switch o.Code {
		case api.OK:
			right = o.Found.Yes != o.Found.Has && o.File == 0 && o.Offset == 0
		case api.ErrParse:
			at, err := grammar.Check([]string{a, b}[o.File-1])
			right = err != api.OK && sameOutcome(o, api.Outcome{Code: o.Code, File: o.File, Offset: at})
		case api.ErrLimit:
			_, wrongA := grammar.Check(a)
			_, wrongB := grammar.Check(b)
			right = wrongA == api.OK && wrongB == api.OK && sameOutcome(o, api.Outcome{Code: o.Code, File: o.File}) && (o.File == 1 || o.File == 2)
		case api.ErrBudget:
			right = l.Budget > 0 && sameOutcome(o, api.Outcome{Code: o.Code})
		}
		if !right {
			t.Fatalf("P20.5: query %d by engine %d with %+v of\n%q\n%q: %+v", query, engine, l, a, b, o)
		}
	}
	for _, code := range []api.Errno{api.OK, api.ErrParse, api.ErrLimit, api.ErrBudget} {
		if codes[code] < 20 {
			t.Errorf("P20.5: the code %d was answered %d times", code, codes[code])
		}
	}
}

// TestMemory: two answers share nothing, and nothing is kept.
func TestMemory(t *testing.T) {
	d := testkit.Draw(rand.New(rand.NewPCG(20, 8)).IntN)
	for range 50 {
		a, b := drawTwo(d)
		ask := func() testkit.Answers {
			var x testkit.Answers
			for query := range 4 {
				for engine := range 3 {
					o := decide.With(a.text(), b.text(), query, wide, options[query], engine)
					x.Found(o.Found, o.Code)
					x.Row(o.Names, o.Code)
				}
				o := decide.Run(a.text(), b.text(), query, wide)
				x.Found(o.Found, o.Code)
				x.Row(o.Names, o.Code)
				o.Names = nil
				x.Text(decide.Text(o), o.Code)
			}
			return x
		}
		if wrong := testkit.Memory(ask, func() bool { return true }); wrong != "" {
			t.Fatalf("P20.8: %s:\n%s%s", wrong, a.text(), b.text())
		}
	}
}
