package decide_test

import (
	"math/rand/v2"
	"testing"

	"wordset/api"
	"wordset/certify"
	"wordset/decide"
	"wordset/format"
	"wordset/formats"
	"wordset/regex"
	"wordset/testkit"
)

// TestThereAndBack: what was printed of a content, an automaton, an expression, a certificate is read as what was printed, and printed again as the same text.
func TestThereAndBack(t *testing.T) {
	d := testkit.Draw(rand.New(rand.NewPCG(20, 13)).IntN)
	certificates := 0
	for range 500 {
		a, b := drawTwo(d)
		text, e := format.Print(content(t, a.text()))
		again, e2 := format.Print(content(t, text))
		if e != api.OK || e2 != api.OK || again != text {
			t.Fatalf("P0.6: %q, %q", text, again)
		}
		line, e := formats.Line(a.auto)
		back, problem := formats.ReadLine(line)
		if again, e2 := formats.Line(back); e != api.OK || e2 != api.OK || problem.Code != api.OK || again != line || !testkit.SameAuto(back, testkit.InOrder(a.auto)) {
			t.Fatalf("P0.6: %q, %q", line, again)
		}
		x := d.Expr(12, 2)
		text, e = regex.Print(x, []string{"a", "b"})
		y, problem := regex.Parse(text, []string{"a", "b"})
		if again, e2 := regex.Print(y, []string{"a", "b"}); e != api.OK || e2 != api.OK || problem.Code != api.OK || again != text || !testkit.SameExpr(x, y) {
			t.Fatalf("P0.6: %q, %q", text, again)
		}
		u, v, _ := merged(a, b)
		c, e := certify.Make(u, v, 0)
		if e != api.OK {
			continue
		}
		certificates++
		text, e = certify.Print(c)
		read, problem := certify.Parse(text)
		if again, e2 := certify.Print(read); e != api.OK || e2 != api.OK || problem.Code != api.OK || again != text || !testkit.SameCert(c, read) {
			t.Fatalf("P0.6: %q, %q", text, again)
		}
	}
	if certificates < 50 {
		t.Errorf("P0.6: only %d certificates", certificates)
	}
}

// TestPrintedAgain: a file and its canonical text get the same outcome.
func TestPrintedAgain(t *testing.T) {
	d := testkit.Draw(rand.New(rand.NewPCG(20, 14)).IntN)
	for range 200 {
		a, b := drawTwo(d)
		textA, textB := loose(d, a.text()), loose(d, b.text())
		plainA, _ := format.Print(content(t, textA))
		plainB, _ := format.Print(content(t, textB))
		for query := range 4 {
			for engine := range 3 {
				want(t, textA, textB, query, wide, options[3], engine, decide.With(plainA, plainB, query, wide, options[3], engine))
			}
		}
	}
}

// TestYesIsCertified: query 2 says yes just if there is a certificate that is taken.
func TestYesIsCertified(t *testing.T) {
	d := testkit.Draw(rand.New(rand.NewPCG(20, 15)).IntN)
	var said [2]int
	for range 300 {
		a, b := drawTwo(d)
		x, y, _, _ := decide.Autos(content(t, a.text()), content(t, b.text()))
		yes := decide.Run(a.text(), b.text(), 2, wide).Found.Yes
		c, e := certify.Make(x, y, 0)
		if yes != (e == api.OK) || !yes && e != api.ErrNone || yes && certify.Check(x, y, c) != api.OK {
			t.Fatalf("P0.2: %v, %d of\n%s%s", yes, e, a.text(), b.text())
		}
		if yes {
			said[1]++
		} else {
			said[0]++
		}
	}
	if said[0] < 50 || said[1] < 50 {
		t.Errorf("P0.2: said were %v", said)
	}
}
