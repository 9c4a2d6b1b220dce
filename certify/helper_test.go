package certify_test

import (
	"fmt"
	"regexp"
	"slices"
	"strconv"
	"strings"
	"testing"

	"wordset/antichain"
	"wordset/api"
	"wordset/certify"
	"wordset/testkit"
)

const lowest, greatest = -1 << 63, 1<<63 - 1

// cert gives a certificate; each pair is its state and its set behind it.
func cert(pairs ...[]int) api.Cert {
	var c api.Cert
	for _, x := range pairs {
		c.Pairs = append(c.Pairs, pair(x[0], x[1:]...))
	}
	return c
}

func pair(state int, set ...int) api.Pair { return api.Pair{State: state, Set: set} }

// without gives a certificate that has all pairs but one.
func without(c api.Cert, at int) api.Cert {
	return api.Cert{Pairs: slices.Delete(slices.Clone(c.Pairs), at, at+1)}
}

// mayBe says when a certificate may be, with states and numbers below bounds.
func mayBe(c api.Cert, states, others int) bool {
	for _, x := range c.Pairs {
		if x.State < 0 || x.State >= states {
			return false
		}
		for i, n := range x.Set {
			if n < 0 || n >= others || i > 0 && n <= x.Set[i-1] {
				return false
			}
		}
	}
	return len(c.Pairs) <= 4096
}

// has tells whether a certificate has a pair of a state all of whose set is within another one.
func has(c api.Cert, state int, within uint64) bool {
	return slices.ContainsFunc(c.Pairs, func(x api.Pair) bool { return x.State == state && testkit.Bits(x.Set)&^within == 0 })
}

// closed says when a certificate is closed for two automata that may be; it is for at most 64 states.
func closed(a, b api.Auto, c api.Cert) bool {
	if !mayBe(c, a.States, b.States) {
		return false
	}
	for _, p := range a.Start {
		if !has(c, p, testkit.Bits(b.Start)) {
			return false
		}
	}
	return !slices.ContainsFunc(c.Pairs, func(x api.Pair) bool { return !stands(a, b, x, c) })
}

// stands tells whether a pair is not bad, and all that must be there for it is.
func stands(a, b api.Auto, x api.Pair, c api.Cert) bool {
	set := testkit.Bits(x.Set)
	if slices.Contains(a.Final, x.State) && set&testkit.Bits(b.Final) == 0 {
		return false
	}
	return !slices.ContainsFunc(a.Edges, func(e api.Edge) bool {
		return e.From == x.State && !has(c, e.To, testkit.PostBits(b, set, e.Sym))
	})
}

// dropped says P18.3 of a closed certificate.
func dropped(a, b api.Auto, c api.Cert) api.Cert {
	for at := len(c.Pairs) - 1; at >= 0; at-- {
		if less := without(c, at); closed(a, b, less) {
			return dropped(a, b, less)
		}
	}
	return c
}

// made says P18.2.
func made(a, b api.Auto, budget int) (api.Cert, api.Errno) {
	kept, bad, err := antichain.Search(a, b, false, budget)
	if err != api.OK {
		return api.Cert{}, err
	}
	if bad >= 0 {
		return api.Cert{}, api.ErrNone
	}
	var c api.Cert
	for i, x := range kept {
		lesser := func(y api.Taken) bool {
			return y.State == x.State && !slices.ContainsFunc(y.Set, func(n int) bool { return !slices.Contains(x.Set, n) })
		}
		if !slices.ContainsFunc(slices.Delete(slices.Clone(kept), i, i+1), lesser) {
			c.Pairs = append(c.Pairs, pair(x.State, x.Set...))
		}
	}
	if len(c.Pairs) > 4096 {
		return api.Cert{}, api.ErrSize
	}
	return c, api.OK
}

// printed says P18.4 of a certificate that may be.
func printed(c api.Cert) string {
	text := fmt.Sprintf("certificate %d\n", len(c.Pairs))
	for _, x := range c.Pairs {
		text += "pair " + strings.Trim(fmt.Sprint(append([]int{x.State}, x.Set...)), "[]") + "\n"
	}
	return text
}

var (
	headLine = regexp.MustCompile(`^certificate (0|[1-9][0-9]{0,3})\n$`)
	pairLine = regexp.MustCompile(`^pair(( (0|[1-9][0-9]{0,3}))+)\n$`)
)

// parsed says P18.5, line by line.
func parsed(text string) (api.Cert, api.Problem) {
	var c api.Cert
	lines := strings.SplitAfter(text, "\n")
	if lines[len(lines)-1] == "" {
		lines = lines[:len(lines)-1]
	}
	at, count := 0, 0
	for i, line := range lines {
		wrong := api.Problem{Code: api.ErrCert, At: at}
		at += len(line)
		if i == 0 {
			parts := headLine.FindStringSubmatch(line)
			if parts == nil {
				return api.Cert{}, wrong
			}
			if count, _ = strconv.Atoi(parts[1]); count > 4096 {
				return api.Cert{}, wrong
			}
			continue
		}
		parts := pairLine.FindStringSubmatch(line)
		if i > count || parts == nil {
			return api.Cert{}, wrong
		}
		var numbers []int
		for _, s := range strings.Fields(parts[1]) {
			n, _ := strconv.Atoi(s)
			numbers = append(numbers, n)
		}
		x := pair(numbers[0], numbers[1:]...)
		if !mayBe(api.Cert{Pairs: []api.Pair{x}}, 4096, 4096) {
			return api.Cert{}, wrong
		}
		c.Pairs = append(c.Pairs, x)
	}
	if len(lines) != count+1 {
		return api.Cert{}, api.Problem{Code: api.ErrCert, At: len(text)}
	}
	return c, api.Problem{}
}

// brief tells something; of what is long just the beginning.
func brief(x any) string {
	text := fmt.Sprint(x)
	if len(text) > 300 {
		return text[:300] + " .."
	}
	return text
}

func wantMake(t *testing.T, a, b api.Auto, budget int, want api.Cert, code api.Errno) {
	t.Helper()
	if c, e := certify.Make(a, b, budget); e != code || !testkit.SameCert(c, want) || e != api.OK && c.Pairs != nil {
		t.Fatalf("P18.2: Make(%s, %s, %d): %s, %d; it should be %s, %d", brief(a), brief(b), budget, brief(c), e, brief(want), code)
	}
}

// wantCheck looks at Drop too, if it is refused.
func wantCheck(t *testing.T, a, b api.Auto, c api.Cert, code api.Errno) {
	t.Helper()
	if e := certify.Check(a, b, c); e != code {
		t.Fatalf("P18.1: Check(%s, %s, %s): %d; it should be %d", brief(a), brief(b), brief(c), e, code)
	}
	if code != api.OK {
		wantDrop(t, a, b, c, api.Cert{}, code)
	}
}

func wantDrop(t *testing.T, a, b api.Auto, c, want api.Cert, code api.Errno) {
	t.Helper()
	if d, e := certify.Drop(a, b, c); e != code || !testkit.SameCert(d, want) || e != api.OK && d.Pairs != nil {
		t.Fatalf("P18.3: Drop(%s, %s, %s): %s, %d; it should be %s, %d", brief(a), brief(b), brief(c), brief(d), e, brief(want), code)
	}
}

func wantPrint(t *testing.T, c api.Cert, want string, code api.Errno) {
	t.Helper()
	if s, e := certify.Print(c); s != want || e != code {
		t.Fatalf("P18.4: Print(%s): %s, %d; it should be %s, %d", brief(c), brief(s), e, brief(want), code)
	}
}

func wantParse(t *testing.T, text string, want api.Cert, problem api.Problem) {
	t.Helper()
	if c, p := certify.Parse(text); p != problem || !testkit.SameCert(c, want) || p.Code != api.OK && c.Pairs != nil {
		t.Fatalf("P18.5: Parse(%q): %s, %v; it should be %s, %v", brief(text), brief(c), p, brief(want), problem)
	}
}

// wrongAt is for texts that are no certificate's.
func wrongAt(t *testing.T, text string, at int) {
	t.Helper()
	wantParse(t, text, api.Cert{}, api.Problem{Code: api.ErrCert, At: at})
}

// wantNeither looks whether two automata cannot be asked together, by whatever budget and certificate.
func wantNeither(t *testing.T, a, b api.Auto, code api.Errno) {
	t.Helper()
	for _, budget := range []int{0, 1, -1, lowest, greatest} {
		wantMake(t, a, b, budget, api.Cert{}, code)
	}
	for _, c := range []api.Cert{{}, cert([]int{0}), cert([]int{0, 0}), cert([]int{-1}), cert([]int{0, 1, 0}), {Pairs: make([]api.Pair, 4097)}} {
		wantCheck(t, a, b, c, code)
	}
}

// questions are what all calls are asked with.
type questions struct {
	a, b   api.Auto
	budget int
	c      api.Cert
	text   string
}

func ask(q questions) testkit.Answers {
	var x testkit.Answers
	x.Cert(certify.Make(q.a, q.b, q.budget))
	x.Code(certify.Check(q.a, q.b, q.c))
	x.Cert(certify.Drop(q.a, q.b, q.c))
	x.Text(certify.Print(q.c))
	c, p := certify.Parse(q.text)
	x.Cert(c, p.Code)
	x.Places = append(x.Places, p.At)
	return x
}
