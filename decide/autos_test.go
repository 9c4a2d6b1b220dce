package decide_test

import (
	"math/rand/v2"
	"slices"
	"strings"
	"testing"

	"wordset/api"
	"wordset/decide"
	"wordset/format"
	"wordset/names"
	"wordset/testkit"
)

// content gives the content of a text that is a file.
func content(t *testing.T, text string) api.File {
	t.Helper()
	f, p := format.Parse(text)
	if p.Code != api.OK {
		t.Fatalf("%q is no file: %v", brief(text), p)
	}
	return f
}

func wantAutos(t *testing.T, f, g api.File, a, b api.Auto, all []string) {
	t.Helper()
	x, y, got, e := decide.Autos(f, g)
	if e != api.OK || !testkit.SameAuto(x, a) || !testkit.SameAuto(y, b) || !slices.Equal(got, all) {
		t.Fatalf("P20.3: Autos(%v, %v): %v, %v, %q, %d; it should be %v, %v, %q", f, g, x, y, got, e, a, b, all)
	}
}

// wantRefused looks whether both ways round two contents are refused alike.
func wantRefused(t *testing.T, f, g api.File, code api.Errno) {
	t.Helper()
	for range 2 {
		if a, b, all, e := decide.Autos(f, g); e != code || !testkit.NoAuto(a) || !testkit.NoAuto(b) || all != nil {
			t.Fatalf("P20.3: Autos of %d and %d states, %d and %d rules: %v, %v, %q, %d; it should be %d", len(f.States), len(g.States), len(f.Rules), len(g.Rules), a, b, all, e, code)
		}
		f, g = g, f
	}
}

func TestExampleOfAutos(t *testing.T) {
	f := content(t, fileA)
	g := content(t, "Ops c:1 b:1\nAutomaton C\nStates p\nFinal States\nTransitions\nc(p) -> p\nb(p) -> p\n")
	wantAutos(t, f, g, testkit.Auto(2, 3, []int{0}, []int{1}, 0, 0, 0, 0, 1, 1), testkit.Auto(1, 3, nil, nil, 0, 1, 0, 0, 2, 0), []string{"a", "b", "c"})
	wantAutos(t, g, f, testkit.Auto(1, 3, nil, nil, 0, 0, 0, 0, 1, 0), testkit.Auto(2, 3, []int{0}, []int{1}, 0, 1, 1, 0, 2, 0), []string{"c", "b", "a"})
}

// TestDrawnAutos: ops of arity 0 are no symbols, though they have a symbol's name.
func TestDrawnAutos(t *testing.T) {
	d := testkit.Draw(rand.New(rand.NewPCG(20, 9)).IntN)
	for range 500 {
		a, b := drawTwo(d)
		x, y, all := merged(a, b)
		f, g := content(t, a.text()), content(t, b.text())
		wantAutos(t, f, g, testkit.InOrder(x), testkit.InOrder(y), all)
		g.Ops = append(g.Ops, api.Op{Name: "zero"}, api.Op{Name: "a", Arity: 0})
		g.Rules = append(g.Rules, api.Rule{Op: "zero", To: "last"}, api.Rule{Op: "a", To: "last"})
		g.States = append(g.States, "last")
		y.States++
		y.Start = append(y.Start, y.States-1)
		wantAutos(t, f, g, testkit.InOrder(x), testkit.InOrder(y), all)
	}
	nothing := api.File{Title: "t"}
	wantAutos(t, nothing, nothing, api.Auto{}, api.Auto{}, nil)
}

// spoilt gives contents that may not be, each for one thing alone.
func spoilt(f api.File) []api.File {
	var bad []api.File
	for i := range 12 {
		g := api.File{Title: f.Title, Ops: slices.Clone(f.Ops), States: slices.Clone(f.States), Final: slices.Clone(f.Final), Rules: slices.Clone(f.Rules)}
		switch i {
		case 0:
			g.Title = ""
		case 1:
			g.Title = "a b"
		case 2:
			g.Ops = append(g.Ops, api.Op{Name: "two", Arity: 2})
		case 3:
			g.Ops = append(g.Ops, g.Ops[0])
		case 4:
			g.Ops = append(g.Ops, api.Op{Name: strings.Repeat("n", 17), Arity: 1})
		case 5:
			g.States = append(g.States, g.States[0])
		case 6:
			g.States = append(g.States, "-")
		case 7:
			g.Final = append(g.Final, "none")
		case 8:
			g.Rules = append(g.Rules, g.Rules[0])
		case 9:
			g.Rules = append(g.Rules, api.Rule{Op: "none", From: g.States[0], To: g.States[0]})
		case 10:
			g.Rules[0].To = "none"
		case 11:
			g.Final = append([]string{g.States[1]}, g.States[0])
		}
		bad = append(bad, g)
	}
	return bad
}

// crowded gives a content with so many states, symbols and rules: ahead of all others each state's start, then edges.
func crowded(head string, states, symbols, rules int) api.File {
	f := api.File{Title: "t", Ops: []api.Op{{Name: "start"}}}
	for n := 0; n < states; n += api.MaxStates {
		more, _ := names.Numbered([]string{"q", "r"}[n/api.MaxStates], min(states-n, api.MaxStates))
		f.States = append(f.States, more...)
	}
	list, _ := names.Numbered(head, symbols)
	for _, name := range list {
		f.Ops = append(f.Ops, api.Op{Name: name, Arity: 1})
	}
	for i := range min(rules, states) {
		f.Rules = append(f.Rules, api.Rule{Op: "start", To: f.States[i]})
	}
	for i := range max(0, rules-states) {
		f.Rules = append(f.Rules, api.Rule{Op: list[i/states/states], From: f.States[i/states%states], To: f.States[i%states]})
	}
	return f
}

// TestSizesOfAutos: as many states, edges and symbols in all as may be, and one more; starts are no edges, and both together may have more states and edges than one automaton.
func TestSizesOfAutos(t *testing.T) {
	const most = api.MaxStates
	small := crowded("a", 1, 1, 1)
	sizes := func(f, g api.File, want ...int) {
		t.Helper()
		a, b, all, e := decide.Autos(f, g)
		if e != api.OK || !slices.Equal([]int{a.States, len(a.Edges), b.States, len(b.Edges), len(all)}, want) || a.Symbols != len(all) || b.Symbols != len(all) {
			t.Fatalf("P20.3: %d states and %d edges, %d and %d, %d names, %d; it should be %v", a.States, len(a.Edges), b.States, len(b.Edges), len(all), e, want)
		}
	}
	sizes(crowded("a", most, 1, most), small, most, 0, 1, 0, 1)
	sizes(small, crowded("b", most, 1, most), 1, 0, most, 0, 2)
	sizes(crowded("a", most, 0, 0), crowded("b", most, 0, 0), most, 0, most, 0, 0)
	wantRefused(t, crowded("a", most+1, 0, 0), small, api.ErrSize)
	full, over := crowded("a", 256, 2, 256+api.MaxEdges), crowded("a", 256, 2, 256+api.MaxEdges+1)
	sizes(full, full, 256, api.MaxEdges, 256, api.MaxEdges, 2)
	wantRefused(t, over, small, api.ErrSize)
	wantRefused(t, over, over, api.ErrSize)
	sizes(crowded("a", 0, 128, 0), crowded("a", 0, 128, 0), 0, 0, 0, 0, 128)
	sizes(crowded("a", 0, 127, 0), crowded("b", 0, 1, 0), 0, 0, 0, 0, 128)
	sizes(crowded("a", 0, 0, 0), crowded("b", 0, 128, 0), 0, 0, 0, 0, 128)
	wantRefused(t, crowded("a", 0, 128, 0), crowded("b", 0, 1, 0), api.ErrSize)
	wantRefused(t, crowded("a", 0, 129, 0), crowded("a", 0, 129, 0), api.ErrSize)
	wantRefused(t, crowded("a", 0, 65, 0), crowded("b", 0, 64, 0), api.ErrSize)
}

// TestContentsThatMayNotBe: each of both, ahead of all that is too great.
func TestContentsThatMayNotBe(t *testing.T) {
	good := content(t, fileA)
	for _, bad := range append(spoilt(good), api.File{}) {
		for _, beside := range []api.File{good, bad, crowded("a", api.MaxStates+1, 0, 0), crowded("a", 0, 129, 0), crowded("c", 0, 128, 0)} {
			wantRefused(t, bad, beside, api.ErrFile)
		}
	}
	for _, great := range []api.File{crowded("a", api.MaxStates+1, 0, 0), crowded("a", 0, 129, 0), crowded("a", 256, 2, 256+api.MaxEdges+1)} {
		great.Title = ""
		wantRefused(t, great, good, api.ErrFile)
	}
}

// TestMemoryOfAutos: what is handed in is not changed, and nothing is shared.
func TestMemoryOfAutos(t *testing.T) {
	d := testkit.Draw(rand.New(rand.NewPCG(20, 10)).IntN)
	for i := range 200 {
		a, b := drawTwo(d)
		f, sameF := testkit.RoomyFile(content(t, a.text()))
		g, sameG := testkit.RoomyFile(content(t, b.text()))
		if i%4 == 0 {
			f, sameF = g, sameG
		}
		ask := func() testkit.Answers {
			var x testkit.Answers
			v, w, all, e := decide.Autos(f, g)
			x.Auto(v, e)
			x.Auto(w, e)
			x.Row(all, e)
			return x
		}
		if wrong := testkit.Memory(ask, func() bool { return sameF() && sameG() }); wrong != "" {
			t.Fatalf("P20.8: %s: %v, %v", wrong, f, g)
		}
	}
}

// TestOddContents: whatever it is given, Autos tells ErrFile just if one may not be.
func TestOddContents(t *testing.T) {
	d := testkit.Draw(rand.New(rand.NewPCG(20, 11)).IntN)
	list := func() []string {
		var out []string
		for range d(4) {
			out = append(out, []string{"a", "b", "p", "q", "", "-", "é"}[d(4+d(4))])
		}
		return out
	}
	one := func() string { return append(list(), "p")[0] }
	odd := func() api.File {
		f := api.File{Title: one(), States: list(), Final: list()}
		for range d(3) {
			f.Ops = append(f.Ops, api.Op{Name: one(), Arity: d(2)})
		}
		for range d(3) {
			f.Rules = append(f.Rules, api.Rule{Op: one(), From: one(), To: one()})
		}
		if d(40) == 0 {
			f.Ops = append(f.Ops, api.Op{Name: "a", Arity: d.Odd()})
		}
		return f
	}
	valid := 0
	for range 60000 {
		f, g := odd(), odd()
		_, _, _, e := decide.Autos(f, g)
		both := format.Valid(f) && format.Valid(g)
		if both {
			valid++
		}
		if both != (e == api.OK) || !both && e != api.ErrFile {
			t.Fatalf("P20.3: Autos(%v, %v): %d", f, g, e)
		}
	}
	if valid < 50 {
		t.Errorf("P20.3: only %d of both might be", valid)
	}
}
