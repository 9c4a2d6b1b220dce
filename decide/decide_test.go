package decide_test

import (
	"math/rand/v2"
	"slices"
	"strings"
	"testing"

	"wordset/api"
	"wordset/decide"
	"wordset/testkit"
)

// The document's two files: a..ab, and the words with at most one b.
const (
	fileA = "Ops start:0 a:1 b:1\nAutomaton A\nStates p q\nFinal States q\nTransitions\nstart() -> p\na(p) -> p\nb(p) -> q\n"
	fileB = "Ops start:0 a:1 b:1\nAutomaton B\nStates r s\nFinal States r s\nTransitions\nstart() -> r\na(r) -> r\nb(r) -> s\na(s) -> s\n"
)

// withoutPairs takes the number of pairs out of a line.
func withoutPairs(line string) string {
	words := strings.Split(line, " ")
	switch {
	case words[0] == "yes":
		return "yes"
	case words[0] == "no":
		return strings.Join(slices.Delete(words, 2, 3), " ")
	}
	return line
}

// TestExamples: the document's, but for those of refusals; the antichain engine's alone too, whose word is a shortest one.
func TestExamples(t *testing.T) {
	shortB := strings.Replace(fileB, "a(s) -> s\n", "", 1)
	for _, c := range []struct {
		a, b  string
		query int
		want  string
	}{
		{fileA, fileB, 0, "no 0 b\n"}, {fileA, fileB, 1, "no 0 ()\n"}, {fileA, fileB, 2, "yes"}, {fileB, fileA, 2, "no 1 ()\n"},
		{fileA, fileB, 3, "no 2 ()\n"}, {fileB, fileA, 1, "no 0 b b\n"}, {fileA, fileB, 6, "yes"}, {fileA, shortB, 2, "yes"}, {shortB, fileA, 2, "no 1 ()\n"},
	} {
		texts := []string{decide.Text(decide.Run(c.a, c.b, c.query, wide))}
		for _, o := range options {
			texts = append(texts, decide.Text(decide.With(c.a, c.b, c.query, wide, o, first)))
		}
		for i, text := range texts {
			if got := withoutPairs(text); got != c.want {
				t.Errorf("P20.2: query %d, way %d: %q, want %q", c.query, i, text, c.want)
			}
		}
	}
}

// seen counts what was held, so that a test can tell whether it has seen enough.
type seen struct{ yes, no, long, tied, second, unlike, chains, congruence int }

// hold asks all queries, engines and options about two sources, without a budget and with those around what each search needs.
func (n *seen) hold(t *testing.T, a, b source) {
	t.Helper()
	_, _, names := merged(a, b)
	textA, textB := a.text(), b.text()
	for query := range 4 {
		length := shortest(query, a, b)
		for _, o := range options {
			q := questionOf(query, a, b, o.Trim)
			for engine := range 3 {
				w := q.by(engine, o)
				whole := api.Outcome{Found: w.found, Names: names}
				want(t, textA, textB, query, budget(0), o, engine, whole)
				wantRight(t, a, b, query, engine, length, w.found)
				for _, p := range w.pairs {
					wantBudget(t, textA, textB, query, o, engine, p-1, slices.Max(w.pairs), whole)
					wantBudget(t, textA, textB, query, o, engine, p, slices.Max(w.pairs), whole)
				}
			}
			n.count(q, q.antichains(o.Simul), q.congruence(o))
		}
	}
}

// wantBudget asks with a budget; need is how many pairs the greatest search has.
func wantBudget(t *testing.T, a, b string, query int, o api.Options, engine, n, need int, whole api.Outcome) {
	t.Helper()
	if n > 0 && n < need {
		whole = api.Outcome{Code: api.ErrBudget}
	}
	want(t, a, b, query, budget(n), o, engine, whole)
}

func (n *seen) count(q question, chains, congruence answer) {
	if chains.found.Yes {
		n.yes++
	} else {
		n.no++
	}
	if len(chains.found.Word) > 2 {
		n.long++
	}
	if chains.found.Side == 2 {
		n.second++
	}
	if !slices.Equal(chains.found.Word, congruence.found.Word) {
		n.unlike++
	}
	if back := (question{3, q.b, q.a}).antichains(false).found; q.query == 3 && back.Has && chains.found.Has && back.Side == chains.found.Side {
		n.tied++ // the words of both ways are of one length
	}
	if need := slices.Max(chains.pairs); need < congruence.pairs[0] {
		n.congruence++
	} else if need > congruence.pairs[0] {
		n.chains++
	}
}

// wantRight looks whether an answer is true, by the sets that words lead to; length is that of the shortest words that show a no, -1: there is none.
func wantRight(t *testing.T, a, b source, query, engine, length int, found api.Found) {
	t.Helper()
	wrong := func(what string) {
		t.Fatalf("%s: query %d by engine %d of\n%s%s%+v; the shortest words that show a no have %d symbols", what, query, engine, brief(a.text()), brief(b.text()), found, length)
	}
	if found.Yes != (length < 0) || found.Has == found.Yes {
		wrong("P0.2")
	}
	if found.Yes {
		if found.Word != nil || found.Side != 0 {
			wrong("P0.3")
		}
		return
	}
	x, y, names := merged(a, b)
	among := len(names)
	if query == 1 {
		among = len(a.symbols)
	}
	if slices.ContainsFunc(found.Word, func(k int) bool { return k < 0 || k >= among }) {
		wrong("P0.3")
	}
	inA, inB := testkit.Reads(x, found.Word), testkit.Reads(y, found.Word)
	side := [4]int{0, 0, 1, 2}[query]
	if query == 3 && inA {
		side = 1
	}
	if !shows(query, inA, inB) || found.Side != side || engine != second && len(found.Word) != length {
		wrong("P0.3")
	}
}

// everySource gives all automata with just so many states and symbols, named.
func everySource(states int, symbols ...string) []source {
	var all []source
	for a := range testkit.Every(states, len(symbols)) {
		all = append(all, numbered(a, symbols...))
	}
	return all
}

func TestEvery(t *testing.T) {
	var n seen
	for _, c := range []struct{ a, b []source }{
		{everySource(0), everySource(0)}, {everySource(1), everySource(1)}, {everySource(0, "a"), everySource(1, "a")}, {everySource(1, "a"), everySource(0)},
		{everySource(1, "a"), everySource(1, "a")}, {everySource(1, "a"), everySource(1, "b")}, {everySource(1, "a", "b"), everySource(1, "b")},
		{everySource(1, "b"), everySource(1, "a", "b")}, {everySource(2), everySource(1, "a")}, {everySource(2, "a"), everySource(0, "a")},
		{everySource(0, "a"), everySource(2, "a")},
	} {
		for _, a := range c.a {
			for _, b := range c.b {
				n.hold(t, a, b)
			}
		}
	}
	for i, a := range everySource(2, "a") {
		n.hold(t, a, everySource(1, "a")[i%8])
		n.hold(t, everySource(1, "a")[i/2%8], a)
	}
	if n.yes < 100 || n.no < 100 || n.tied == 0 || n.second == 0 {
		t.Errorf("held were %+v", n)
	}
}

func TestDrawn(t *testing.T) {
	d := testkit.Draw(rand.New(rand.NewPCG(20, 1)).IntN)
	var n seen
	for range 400 {
		a, b := drawTwo(d)
		n.hold(t, a, b)
	}
	if n.yes < 1000 || n.no < 1000 || n.long < 100 || n.tied < 50 || n.second < 100 || n.unlike < 80 || n.chains < 500 || n.congruence < 500 {
		t.Errorf("held were %+v", n)
	}
}

// TestQueryCountsModuloFour: any number is a query.
func TestQueryCountsModuloFour(t *testing.T) {
	d := testkit.Draw(rand.New(rand.NewPCG(20, 2)).IntN)
	for range 60 {
		a, b := drawTwo(d)
		_, _, names := merged(a, b)
		for query := range 4 {
			for engine := range 3 {
				w := questionOf(query, a, b, true).by(engine, options[3])
				for _, like := range []int{query + 4, query - 4, query - 400, query + 1<<40, lowest + query, greatest - 3 + query} {
					want(t, a.text(), b.text(), like, budget(0), options[3], engine, api.Outcome{Found: w.found, Names: names})
				}
			}
		}
	}
}

// TestEngineNumbers: 1 asks the antichain engine alone, 2 the other one alone, all others ask both; which were asked is seen by a budget that is enough for one of them.
func TestEngineNumbers(t *testing.T) {
	d := testkit.Draw(rand.New(rand.NewPCG(20, 3)).IntN)
	var few [3]int
	for i := range 100 {
		a, b := drawTwo(d)
		if i%2 == 0 {
			a, b = late(1 + d(9))
		}
		_, _, names := merged(a, b)
		for query := range 4 {
			q := questionOf(query, a, b, true)
			chains, congruence := q.by(first, options[3]), q.by(second, options[3])
			n := min(slices.Max(chains.pairs), congruence.pairs[0])
			for _, number := range []int{0, 1, 2, 3, 4, -1, -2, -3, 5, 6, 1<<32 + 1, 1<<32 + 2, lowest, lowest + 1, greatest} {
				w, needs := chains, append(slices.Clone(chains.pairs), congruence.pairs...)
				switch number {
				case 1:
					needs = chains.pairs
				case 2:
					w, needs = congruence, congruence.pairs
				}
				o := api.Outcome{Found: w.found, Names: names}
				if n > 0 && n < slices.Max(needs) {
					o = api.Outcome{Code: api.ErrBudget}
					few[min(max(number, 0), 3)%3]++
				}
				want(t, a.text(), b.text(), query, budget(n), options[3], number, o)
			}
		}
	}
	if few[first] < 20 || few[second] < 20 || few[both] < 200 {
		t.Errorf("refused were %v", few)
	}
}

// TestAskedOtherwise: equal is both ways included, empty is included in what has no word.
func TestAskedOtherwise(t *testing.T) {
	d := testkit.Draw(rand.New(rand.NewPCG(20, 4)).IntN)
	for range 200 {
		a, b := drawTwo(d)
		nothing := b
		nothing.auto.Final = nil
		for engine := range 3 {
			for _, o := range options {
				yes := func(a, b source, query int) bool {
					return decide.With(a.text(), b.text(), query, wide, o, engine).Found.Yes
				}
				if yes(a, b, 3) != (yes(a, b, 2) && yes(b, a, 2)) || yes(a, b, 3) != yes(b, a, 3) {
					t.Fatalf("P20.7: engine %d, %+v: equal is not both ways included:\n%s%s", engine, o, a.text(), b.text())
				}
				if yes(a, b, 0) != yes(a, nothing, 2) {
					t.Fatalf("P20.7: engine %d, %+v: empty is not included in nothing:\n%s%s", engine, o, a.text(), nothing.text())
				}
			}
		}
	}
}

// TestToldOtherwise: files that mean the same, but for the names, get the same verdicts and words as long.
func TestToldOtherwise(t *testing.T) {
	d := testkit.Draw(rand.New(rand.NewPCG(20, 5)).IntN)
	for range 200 {
		a, b := drawTwo(d)
		anew := map[string]string{}
		for i, k := range order(d, 4) {
			anew[[]string{"a", "b", "start", "q0"}[i]] = []string{"b", "zz", "q0", "'0123456789abcde"}[k]
		}
		textA, textB := otherwise(d, a, anew), otherwise(d, b, anew)
		for query := range 4 {
			for engine := range 3 {
				o := options[d(4)]
				x := decide.With(a.text(), b.text(), query, wide, o, engine)
				y := decide.With(textA, textB, query, wide, o, engine)
				if x.Code != api.OK || y.Code != api.OK || x.Found.Yes != y.Found.Yes || engine != second && len(x.Found.Word) != len(y.Found.Word) {
					t.Fatalf("P20.7: query %d, engine %d, %+v:\n%s%s%+v; told otherwise:\n%s%s%+v", query, engine, o, a.text(), b.text(), x, textA, textB, y)
				}
				if engine == first && query != 3 && x.Found.Side != y.Found.Side || !slices.Equal(renamed(x.Names, anew), y.Names) {
					t.Fatalf("P20.7: query %d, engine %d, %+v:\n%s%s%+v; told otherwise: %+v", query, engine, o, a.text(), b.text(), x, y)
				}
			}
		}
	}
}
