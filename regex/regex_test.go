package regex_test

import (
	"fmt"
	"math/rand/v2"
	"slices"
	"strings"
	"testing"

	"wordset/api"
	"wordset/regex"
	"wordset/testkit"
)

func TestExamples(t *testing.T) {
	for _, c := range []struct {
		text string
		want api.Expr
	}{
		{"a b|c1*", alt(cat(a, b), star(c1))},
		{"a(b)c1", cat(a, cat(b, c1))},
		{"a b", cat(a, b)},
		{"a+", cat(a, star(a))},
		{"b?", alt(b, empty)},
		{"a**", star(star(a))},
		{"%*", star(empty)},
		{"(~)", none},
	} {
		e, p := regex.Parse(c.text, letters)
		wantExpr(t, fmt.Sprintf("P9.2: Parse of %q", c.text), e, p.Code, c.want)
	}
	for text, at := range map[string]int{"": 0, "(a": 2, "a|": 2, ")": 0, "a|*": 2, "a)": 1, "a zz )": 5, "a-b": 1, strings.Repeat("x", 17): 16} {
		wantProblem(t, text, letters, api.ErrSyntax, at)
	}
	wantProblem(t, "ab", letters, api.ErrUnknown, 0)
	wantProblem(t, "a zz", letters, api.ErrUnknown, 2)
	wantProblem(t, "a"+strings.Repeat("+", 40), letters, api.ErrSize, 0)
	for want, e := range map[string]api.Expr{
		"(a | b %)*":   star(alt(a, cat(b, empty))),
		"(a b) c1":     cat(cat(a, b), c1),
		"(a | b) | c1": alt(alt(a, b), c1),
		"a**":          star(star(a)),
	} {
		if s, code := regex.Print(e, letters); s != want || code != api.OK {
			t.Errorf("P9.3: Print: %q, %d; it should be %q", s, code, want)
		}
	}
	e, code := regex.Simple(cat(empty, alt(none, star(star(a)))))
	wantExpr(t, "P9.5: Simple", e, code, star(a))
	for k, want := range []api.Expr{cat(star(a), b), empty, none} {
		e, code := regex.Derive(cat(star(a), b), k)
		wantExpr(t, fmt.Sprint("P9.6: Derive of a* b by ", k), e, code, want)
	}
}

func TestExamplesOfWords(t *testing.T) {
	e := star(cat(a, b))
	for _, c := range []struct {
		word []int
		want bool
	}{{[]int{0, 1, 0, 1}, true}, {[]int{0, 1, 0}, false}, {nil, true}, {[]int{}, true}, {[]int{7}, false}} {
		if yes, code := regex.Matches(e, c.word); yes != c.want || code != api.OK {
			t.Errorf("P9.7: Matches of %v: %v, %d", c.word, yes, code)
		}
	}
	if yes, code := regex.Matches(e, []int{-1}); yes || code != api.ErrWord {
		t.Errorf("P9.7: Matches of a symbol below 0: %v, %d", yes, code)
	}
	d, code := regex.Derive(e, -1)
	wantError(t, "P9.6: Derive by -1", d, code, api.ErrArg)
	if code := regex.Valid(api.Expr{}, 3); code != api.ErrExpr {
		t.Errorf("P9.1: Valid of no nodes: %d", code)
	}
	if code := regex.Valid(testkit.Node(api.XStar), 3); code != api.ErrExpr {
		t.Errorf("P9.1: Valid of a star without a kid: %d", code)
	}
}

// TestEveryParse holds all short texts of some bytes against the model.
func TestEveryParse(t *testing.T) {
	const bytes = "a ()|*%-"
	texts := []string{""}
	for done := 0; len(texts[done]) < 6; done++ {
		text := texts[done]
		want, problem := modelParse(text, letters)
		if e, p := regex.Parse(text, letters); p != problem || !testkit.SameExpr(e, want) {
			t.Fatalf("P9.2: Parse of %q: %v, %v; it should be %v, %v", text, e, p, want, problem)
		}
		// Behind what is no beginning nothing changes any more: one byte of it is enough.
		if problem.Code == api.ErrSyntax && problem.At+1 < len(text) {
			continue
		}
		for i := range bytes {
			texts = append(texts, text+bytes[i:i+1])
		}
	}
}

func TestDrawnParse(t *testing.T) {
	d := testkit.Draw(rand.New(rand.NewPCG(9, 1)).IntN)
	codes := map[api.Errno]int{}
	for range 6000 {
		text := changed(d, drawnText(d, 3))
		names := letters[:2+d(2)]
		want, problem := modelParse(text, names)
		codes[problem.Code]++
		if e, p := regex.Parse(text, names); p != problem || !testkit.SameExpr(e, want) {
			t.Fatalf("P9.2: Parse of %q: %v, %v; it should be %v, %v", text, e, p, want, problem)
		}
	}
	for _, code := range []api.Errno{api.OK, api.ErrSyntax, api.ErrUnknown} {
		if codes[code] < 500 {
			t.Errorf("too few texts of the problem %d: %v", code, codes)
		}
	}
}

// TestSyntaxPlace: P9.8: the first At bytes are a beginning, one more are none.
func TestSyntaxPlace(t *testing.T) {
	d := testkit.Draw(rand.New(rand.NewPCG(9, 2)).IntN)
	for range 3000 {
		text := changed(d, drawnText(d, 3))
		_, p := regex.Parse(text, letters)
		if p.Code != api.ErrSyntax {
			continue
		}
		if p.At > len(text) || !modelBeginning(text[:p.At]) || p.At < len(text) && modelBeginning(text[:p.At+1]) {
			t.Fatalf("P9.8: %q: ErrSyntax at %d", text, p.At)
		}
		if _, q := regex.Parse(text[:p.At], letters); q.Code == api.ErrSyntax && q.At != p.At {
			t.Fatalf("P9.8: %q: ErrSyntax at %d, but its beginning's at %d", text, p.At, q.At)
		}
	}
}

// TestEveryByte puts each byte at each kind of place.
func TestEveryByte(t *testing.T) {
	for c := range 256 {
		for _, form := range []string{"@", "@a", "a@", "a@b", "a @", "(@", "(a@", "(a)@", "a|@", "a*@", "~@", "%@~"} {
			text := strings.ReplaceAll(form, "@", string([]byte{byte(c)}))
			want, problem := modelParse(text, letters)
			if e, p := regex.Parse(text, letters); p != problem || !testkit.SameExpr(e, want) {
				t.Errorf("P9.2: Parse of %q: %v, %v; it should be %v, %v", text, e, p, want, problem)
			}
		}
	}
}

// TestThereAndBack: with every small expression and drawn ones; no pair of brackets can be left out.
func TestThereAndBack(t *testing.T) {
	d := testkit.Draw(rand.New(rand.NewPCG(9, 3)).IntN)
	all := testkit.EveryExpr(5, 2)
	for range 300 {
		all = append(all, d.Expr(1+d(60), 3))
	}
	for _, e := range all {
		s, code := regex.Print(e, letters)
		if want := modelPrint(e, letters); s != want || code != api.OK {
			t.Fatalf("P9.3: Print of %v: %q, %d; it should be %q", e, s, code, want)
		}
		back, p := regex.Parse(s, letters)
		wantExpr(t, "P9.8: Parse of Print", back, p.Code, e)
		for i, j := range brackets(s) {
			fewer := s[:i] + s[i+1:j] + s[j+1:]
			if other, _ := modelParse(fewer, letters); testkit.SameExpr(other, e) {
				t.Errorf("P9.3: %q has more brackets than %q", s, fewer)
			}
		}
	}
}

// brackets gives for each opening bracket the closing one.
func brackets(s string) map[int]int {
	pairs := map[int]int{}
	var open []int
	for i := range s {
		switch s[i] {
		case '(':
			open = append(open, i)
		case ')':
			pairs[open[len(open)-1]] = i
			open = open[:len(open)-1]
		}
	}
	return pairs
}

func TestBackAndThere(t *testing.T) {
	d := testkit.Draw(rand.New(rand.NewPCG(9, 4)).IntN)
	for range 2000 {
		text := drawnText(d, 4)
		e, p := regex.Parse(text, letters)
		if p.Code == api.ErrSize {
			continue
		}
		s, code := regex.Print(e, letters)
		again, q := regex.Parse(s, letters)
		if p.Code != api.OK || code != api.OK || q.Code != api.OK || !testkit.SameExpr(e, again) {
			t.Fatalf("P9.8: %q: %v, printed %q: %v, %v", text, p, s, code, q)
		}
	}
}

func TestSimple(t *testing.T) {
	for _, c := range []struct{ e, want api.Expr }{
		{cat(none, a), none}, {cat(a, none), none}, {cat(none, empty), none}, {cat(empty, none), none},
		{cat(empty, a), a}, {cat(a, empty), a}, {cat(empty, empty), empty}, {cat(a, a), cat(a, a)},
		{alt(none, a), a}, {alt(a, none), a}, {alt(none, none), none}, {alt(empty, empty), empty},
		{alt(cat(a, b), cat(a, b)), cat(a, b)}, {alt(cat(a, b), cat(b, a)), alt(cat(a, b), cat(b, a))}, {alt(a, empty), alt(a, empty)},
		{alt(a, alt(a, b)), alt(a, alt(a, b))}, {alt(a, b), alt(a, b)},
		{star(none), empty}, {star(empty), empty}, {star(star(star(a))), star(a)}, {star(a), star(a)},
		{star(cat(empty, star(b))), star(b)}, {alt(cat(empty, a), alt(none, a)), a},
		{star(alt(star(none), cat(empty, empty))), empty}, {a, a}, {none, none}, {empty, empty},
	} {
		e, code := regex.Simple(c.e)
		wantExpr(t, fmt.Sprint("P9.5: Simple of ", c.e), e, code, c.want)
	}
}

// TestEverySimple holds all small expressions against the model, and what comes of simplifying.
func TestEverySimple(t *testing.T) {
	words := testkit.Words(2, 3)
	for _, e := range testkit.EveryExpr(6, 2) {
		x, code := regex.Simple(e)
		wantExpr(t, fmt.Sprint("P9.5: Simple of ", e), x, code, modelSimple(e))
		if len(x.Nodes) > len(e.Nodes) || regex.Valid(x, 2) != api.OK {
			t.Fatalf("P9.8: Simple of %v: %v", e, x)
		}
		again, code := regex.Simple(x)
		wantExpr(t, "P9.8: Simple of a simple one", again, code, x)
		if len(e.Nodes) > 5 {
			continue
		}
		for _, w := range words {
			if testkit.Means(x, w) != testkit.Means(e, w) {
				t.Fatalf("P9.8: Simple of %v: %v: other words: %v", e, x, w)
			}
		}
	}
}

// TestEveryDerive holds all small expressions against the model and against their words.
func TestEveryDerive(t *testing.T) {
	words := testkit.Words(2, 3)
	for _, e := range testkit.EveryExpr(5, 2) {
		for k := range 3 {
			x, code := regex.Derive(e, k)
			wantExpr(t, fmt.Sprint("P9.6: Derive of ", e, " by ", k), x, code, modelSimple(modelDerive(e, k)))
			for _, w := range words {
				long, _ := regex.Matches(e, slices.Concat([]int{k}, w))
				if short, _ := regex.Matches(x, w); short != long || long != testkit.Means(e, slices.Concat([]int{k}, w)) {
					t.Fatalf("P9.8: Derive of %v by %d: %v: %v", e, k, x, w)
				}
			}
		}
	}
}

func TestDrawnDerive(t *testing.T) {
	d := testkit.Draw(rand.New(rand.NewPCG(9, 5)).IntN)
	sizes := 0
	for range 400 {
		e, k := d.Expr(1+d(400), 3), d(4)
		want := modelDerive(e, k)
		x, code := regex.Derive(e, k)
		if len(want.Nodes) > 2000 {
			sizes++
			wantError(t, "P9.6: Derive of a large one", x, code, api.ErrSize)
			continue
		}
		wantExpr(t, "P9.6: Derive of a drawn one", x, code, modelSimple(want))
	}
	if sizes < 20 || sizes > 380 {
		t.Errorf("%d of 400 derivatives are too large", sizes)
	}
}

func TestEveryMatch(t *testing.T) {
	words := slices.Concat(testkit.Words(2, 4), testkit.Words(3, 2))
	for _, e := range testkit.EveryExpr(5, 2) {
		for _, w := range words {
			if yes, code := regex.Matches(e, w); yes != testkit.Means(e, w) || code != api.OK {
				t.Fatalf("P9.7: Matches of %v, %v: %v, %d", e, w, yes, code)
			}
		}
		yes, code := regex.Nullable(e)
		if match, _ := regex.Matches(e, nil); yes != testkit.Means(e, nil) || yes != match || code != api.OK {
			t.Fatalf("P9.4: Nullable of %v: %v, %d", e, yes, code)
		}
	}
}

// TestDrawnMatch holds larger ones, with words of theirs and changed ones, against the definition.
func TestDrawnMatch(t *testing.T) {
	d := testkit.Draw(rand.New(rand.NewPCG(9, 6)).IntN)
	taken := 0
	for range 3000 {
		e := d.Expr(1+d(30), 3)
		w := d.WordOf(e)
		if d(2) == 0 {
			w = append(w, d.List(4, d(3))...)
		}
		if len(w) > 20 {
			w = w[:20]
		}
		want := testkit.Means(e, w)
		if want && len(w) > 2 {
			taken++
		}
		if yes, code := regex.Matches(e, w); yes != want || code != api.OK {
			t.Fatalf("P9.7: Matches of %v, %v: %v, %d", e, w, yes, code)
		}
		if yes, code := regex.Nullable(e); yes != testkit.Means(e, nil) || code != api.OK {
			t.Fatalf("P9.4: Nullable of %v: %v, %d", e, yes, code)
		}
	}
	if taken < 300 {
		t.Errorf("%d words are taken", taken)
	}
}
