package formats_test

import (
	"math"
	"math/rand/v2"
	"slices"
	"strconv"
	"strings"
	"testing"

	"wordset/api"
	"wordset/formats"
	"wordset/testkit"
)

func wantLine(t *testing.T, a api.Auto, want string) {
	t.Helper()
	if s, e := formats.Line(a); s != want || e != api.OK {
		t.Errorf("P5.1: Line(%v) = %q, %d, want %q", a, s, e, want)
	}
}

func wantAuto(t *testing.T, s string, want api.Auto) {
	t.Helper()
	if a, p := formats.ReadLine(s); p != (api.Problem{}) || !testkit.SameAuto(a, want) {
		t.Errorf("P5.2: ReadLine(%.200q) = %v, %v, want %v", s, a, p, want)
	}
}

func wantRefused(t *testing.T, s string, at int) {
	t.Helper()
	a, p := formats.ReadLine(s)
	if p != (api.Problem{Code: api.ErrForm, At: at}) {
		t.Errorf("P5.2: ReadLine(%.200q): %v, want ErrForm at %d", s, p, at)
	}
	if a.States != 0 || a.Symbols != 0 || a.Start != nil || a.Final != nil || a.Edges != nil {
		t.Errorf("P5.2: ReadLine(%.200q): %v beside the error", s, a)
	}
}

// wantAsModel holds ReadLine of a text against the model, and tells whether it is a line.
func wantAsModel(t *testing.T, s string) bool {
	t.Helper()
	if at := modelOffset(s); at >= 0 {
		wantRefused(t, s, at)
		return false
	}
	a := modelAuto(s)
	wantAuto(t, s, a)
	if again, e := formats.Line(a); again != s || e != api.OK {
		t.Errorf("P5.6: Line of what %q tells: %q, %d", s, again, e)
	}
	return true
}

func TestLineExamples(t *testing.T) {
	a := api.Auto{States: 2, Symbols: 1, Start: []int{0}, Final: []int{1, 0, 1}, Edges: []api.Edge{{To: 1}, {}}}
	const line = "2 1;0;0 1;0 0 0,0 0 1"
	wantLine(t, a, line)
	wantLine(t, api.Auto{}, "0 0;;;")
	wantAuto(t, "0 0;;;", api.Auto{})
	wantAuto(t, line, testkit.InOrder(a))
	for s, at := range map[string]int{"2 1;0;1 0;": 8, "2 1;2": 4, "02": 0, "4097": 0, "2 1;0;1": 7, "1 1;;;0 0 0,0 0 0": 16} {
		wantRefused(t, s, at)
	}
}

func TestLineEdges(t *testing.T) {
	for want, a := range map[string]api.Auto{
		"0 3;;;":                  {Symbols: 3},
		"3 0;;;":                  {States: 3},
		"3 0;0 2;;":               {States: 3, Start: []int{2, 0, 2, 0}, Final: []int{}},
		"3 0;;1 2;":               {States: 3, Final: []int{2, 2, 1}},
		"1 1;;;0 0 0":             {States: 1, Symbols: 1, Edges: []api.Edge{{}, {}, {}}},
		"2 2;;;0 0 1,0 1 0,1 0 0": {States: 2, Symbols: 2, Edges: []api.Edge{{From: 1}, {Sym: 1}, {To: 1}, {Sym: 1}}},
		"12 11;10;9 10;2 3 4,10 1 1,10 1 11,10 10 0": {
			States: 12, Symbols: 11, Start: []int{10}, Final: []int{10, 9},
			Edges: []api.Edge{{From: 10, Sym: 10}, {From: 10, Sym: 1, To: 11}, {From: 10, Sym: 1, To: 1}, {From: 2, Sym: 3, To: 4}},
		},
	} {
		wantLine(t, a, want)
		wantAuto(t, want, testkit.InOrder(a))
	}
	great := api.Auto{States: 4096, Symbols: 128, Start: []int{4095}, Final: []int{4095, 0}, Edges: []api.Edge{{From: 4095}, {Sym: 127, To: 4095}}}
	wantLine(t, great, "4096 128;4095;0 4095;0 127 4095,4095 0 0")
	doubles := api.Auto{States: 1, Symbols: 1, Start: make([]int, 70000), Final: make([]int, 70000), Edges: make([]api.Edge, 65536)}
	wantLine(t, doubles, "1 1;0;0;0 0 0")
}

// TestLineRefuses: each way for an automaton not to be, alone.
func TestLineRefuses(t *testing.T) {
	for i, a := range []api.Auto{
		{States: -1}, {States: 4097}, {States: math.MaxInt}, {States: math.MinInt},
		{Symbols: -1}, {Symbols: 129}, {Symbols: 4097}, {Symbols: math.MaxInt}, {Symbols: math.MinInt},
		{Start: []int{0}}, {States: 2, Start: []int{0, 2}}, {States: 2, Start: []int{1, -1}}, {States: 2, Start: []int{math.MaxInt}},
		{Final: []int{0}}, {States: 2, Final: []int{0, 2}}, {States: 2, Final: []int{1, -1}}, {States: 2, Final: []int{math.MinInt}},
		{States: 1, Edges: []api.Edge{{}}}, {Symbols: 1, Edges: []api.Edge{{}}},
		{States: 2, Symbols: 3, Edges: []api.Edge{{}, {From: 2}}}, {States: 2, Symbols: 3, Edges: []api.Edge{{From: -1}}},
		{States: 2, Symbols: 3, Edges: []api.Edge{{}, {Sym: 3}}}, {States: 2, Symbols: 3, Edges: []api.Edge{{Sym: -1}}},
		{States: 2, Symbols: 3, Edges: []api.Edge{{}, {To: 2}}}, {States: 2, Symbols: 3, Edges: []api.Edge{{To: -1}}},
		{States: 1, Symbols: 1, Edges: make([]api.Edge, 65537)},
		{States: -1, Symbols: -1, Start: []int{-1}, Final: []int{-1}, Edges: []api.Edge{{From: -1, Sym: -1, To: -1}}},
	} {
		if s, e := formats.Line(a); s != "" || e != api.ErrAuto {
			t.Errorf("P5.1: row %d: Line = %q, %d, want ErrAuto alone", i, s, e)
		}
	}
}

func TestLineDrawn(t *testing.T) {
	r := rand.New(rand.NewPCG(5, 1))
	for i := range 5000 {
		a := drawnAuto(r, 1+i%20, 1+i%13)
		ordered := testkit.InOrder(a)
		s := modelLine(ordered)
		wantLine(t, a, s)
		if b, p := formats.ReadLine(s); p != (api.Problem{}) || !testkit.SameAuto(b, ordered) {
			t.Fatalf("P5.6: ReadLine(Line(%v)) = %v, %v", a, b, p)
		}
		if modelOffset(s) >= 0 {
			t.Fatalf("the test's own line %q is none", s)
		}
	}
}

// TestLineTellsApart: two automata have one line just if they are the same in order.
func TestLineTellsApart(t *testing.T) {
	r := rand.New(rand.NewPCG(5, 2))
	told := map[string]api.Auto{}
	again := 0
	for range 20000 {
		a := drawnAuto(r, 2, 2)
		s, _ := formats.Line(a)
		b, ok := told[s]
		if ok && !testkit.SameAuto(testkit.InOrder(a), testkit.InOrder(b)) {
			t.Fatalf("P5.6: %v and %v have the line %q", a, b, s)
		}
		if ok {
			again++
		}
		told[s] = a
	}
	lines := map[string]string{}
	for s, a := range told {
		key := modelLine(testkit.InOrder(a))
		if other, ok := lines[key]; ok {
			t.Fatalf("P5.6: one automaton has the lines %q and %q", s, other)
		}
		lines[key] = s
	}
	if len(told) < 100 || again < 1000 {
		t.Errorf("%d lines, %d told again", len(told), again)
	}
}

// TestReadLineOneByOne: each reason to refuse an item, and what is no reason.
func TestReadLineOneByOne(t *testing.T) {
	for s, at := range map[string]int{
		"": 0, ";": 0, " ": 0, ",": 0, "x": 0, "-1": 0, "+1": 0, "\n": 0, "\x00": 0, "\xff": 0, "٣": 0,
		"0": 1, "0 ": 2, "0 0": 3, "0 0;": 4, "0 0;;": 5, "00": 0, "00 0;;;": 0, "0 00;;;": 2, "0  0;;;": 2, "0\t0;;;": 1, " 0 0;;;": 0,
		"0;0": 1, "0,0": 1, "2 1 ;;;": 3, "2 1,": 3, "2 1 0": 3,
		"4096 129;;;": 5, "4097 1;;;": 0, "40960 1;;;": 0, "4096 1280": 5, "0128 1;;;": 0, "1 0128;;;": 2,
		"0 0;0;;": 4, "0 0;;0;": 5, "0 0;;;0 0 0": 6, "1 0;;;0 0 0": 8, "0 1;;;0 0 0": 6,
		"3 1;3;;": 4, "3 1;0 3;;": 6, "3 1;0 0;;": 6, "3 1;2 1;;": 6, "3 1;0  1;;": 6, "3 1; 0;;": 4, "3 1;0 ;;": 6, "3 1;0,1;;": 5, "3 1;00;;": 4, "3 1;01;;": 4, "3 1;0 01": 6,
		"3 1;;3;": 5, "3 1;;0 0;": 7, "3 1;;2 1;": 7, "3 1;; ;": 5, "3 1;;0 ;": 7, "3 1;;0,": 6, "3 1;;00;": 5, "3 1;;1 0": 7,
		"3 1;0 1 2 ": 10, "3 1;0 1 2 2": 10, "3 1;0 1 2 3": 10, "3 1;;0 1 2 ;": 11,
		"1 1;;;;": 6, "1 1;;;,": 6, "1 1;;; ": 6, "1 1;;;\n": 6, "1 1;;;0": 7, "1 1;;;0 ": 8, "1 1;;;0 0": 9, "1 1;;;0 0 ": 10, "1 1;;;0 0 0;": 11, "1 1;;;0 0 0 ": 11, "1 1;;;0 0 0\n": 11, "1 1;;;0 0 0,": 12, "1 1;;;0 0 0,,": 12, "1 1;;;0 0 0, ": 12, "1 1;;;0,": 7, "1 1;;;0 0,": 9, "1 1;;;0;": 7,
		"1 1;;;1 0 0": 6, "1 1;;;0 1 0": 8, "1 1;;;0 0 1": 10, "1 1;;;00 0 0": 6, "1 1;;;0 00 0": 8, "1 1;;;0 0 00": 10,
		"2 2;;;1 0 0,0 0 0": 16, "2 2;;;1 1 1,0 1 1": 16, "2 2;;;0 1 0,0 0 1": 16, "2 2;;;0 0 1,0 0 0": 16, "2 2;;;1 0 0,0": 13, "2 2;;;0 0 0,0 1 0,0 0 1": 22, "2 2;;;0 0 0,2": 12,
		"18446744073709551616 0;;;": 0, "18446744073709551617 0": 0, "4294967297 1": 0, "1 18446744073709551617;;;": 2, "1 1;18446744073709551616;;": 4, "1 1;;;0 18446744073709551616 0": 8, "9223372036854775808": 0,
	} {
		wantRefused(t, s, at)
		if got := modelOffset(s); got != at {
			t.Errorf("the test's own model refuses %q at %d, not at %d", s, got, at)
		}
	}
}

// TestReadLineShort: all short texts of the bytes that a line may hold, and of one more.
func TestReadLineShort(t *testing.T) {
	const bytes = "0123 ;,x"
	lines := 0
	var walk func(s string, more int)
	walk = func(s string, more int) {
		if wantAsModel(t, s) {
			lines++
		}
		if t.Failed() || more == 0 {
			return
		}
		// A text that is refused ahead of its last item is so with anything behind it.
		if at := modelOffset(s); at >= 0 && at < len(s) && !strings.ContainsAny(s[len(s)-1:], "0123") {
			return
		}
		for i := range len(bytes) {
			walk(s+bytes[i:i+1], more-1)
		}
	}
	walk("", 7)
	if lines < 10 {
		t.Errorf("only %d of the texts were lines", lines)
	}
}

// TestReadLineWalks draws texts item by item, mostly items that may stand there.
func TestReadLineWalks(t *testing.T) {
	r := rand.New(rand.NewPCG(5, 3))
	items := []string{"0", "1", "2", "3", "01", "00", "10", "129", "4097", " ", ";", ",", " ", ";", ",", "x"}
	lines := 0
	for range 3000 {
		s := ""
		for range 40 {
			item := items[r.IntN(len(items))]
			at := modelOffset(s + item)
			if at < 0 || at == len(s+item) || r.IntN(150) == 0 {
				s += item
			}
		}
		if wantAsModel(t, s) {
			lines++
		}
	}
	if lines < 300 {
		t.Errorf("only %d of the texts were lines", lines)
	}
}

func TestReadLineChanged(t *testing.T) {
	r := rand.New(rand.NewPCG(5, 4))
	lines := 0
	for range 20000 {
		if wantAsModel(t, changed(r, modelLine(testkit.InOrder(drawnAuto(r, 12, 3))), "0123456789 ;, ;,x-\n\x00\xe9")) {
			lines++
		}
	}
	if lines < 500 {
		t.Errorf("only %d of the texts were lines", lines)
	}
}

// TestReadLineDisorder: lists written as they were drawn, with doubles and in no order.
func TestReadLineDisorder(t *testing.T) {
	r := rand.New(rand.NewPCG(5, 5))
	for range 10000 {
		wantAsModel(t, modelLine(drawnAuto(r, 5, 3)))
	}
}

// TestReadLineLimits: as many states, symbols and edges as there may be, and one more.
func TestReadLineLimits(t *testing.T) {
	wantAuto(t, "4096 128;;;", api.Auto{States: 4096, Symbols: 128})
	wantRefused(t, "4097 128;;;", 0)
	wantRefused(t, "4096 129;;;", 5)
	full := api.Auto{States: 4096, Symbols: 128}
	for q := range 4096 {
		full.Start = append(full.Start, q)
		full.Final = append(full.Final, q)
	}
	for i := range 65536 {
		full.Edges = append(full.Edges, api.Edge{From: i / 128, Sym: i % 128, To: i % 4096})
	}
	s := modelLine(full)
	wantAuto(t, s, full)
	wantLine(t, full, s)
	wantRefused(t, s+",", len(s))
	wantRefused(t, s+",4095 127 4095", len(s))
	wantRefused(t, s+";", len(s))
	fewer := full
	fewer.Edges = full.Edges[:65535]
	s = modelLine(fewer)
	wantAuto(t, s, fewer)
	wantRefused(t, s+",", len(s)+1)
	slices.Reverse(full.Start)
	slices.Reverse(full.Final)
	slices.Reverse(full.Edges)
	reversed, e := formats.Line(full)
	if e != api.OK || !strings.HasPrefix(reversed, s+",") {
		t.Errorf("P5.1: the line of the full automaton, its lists turned round: %d bytes, %d", len(reversed), e)
	}
}

func TestReadLineLong(t *testing.T) {
	for _, s := range []string{strings.Repeat("0", 1<<20), strings.Repeat("1", 1<<20), strings.Repeat(" ", 1<<20), "1" + strings.Repeat("0", 1<<20)} {
		wantRefused(t, s, 0)
		wantRefused(t, "1 1;"+s, 4)
	}
	wantRefused(t, "1 1;;"+strings.Repeat(";", 1<<20), 6)
	wantRefused(t, "1 1;;;0 0 0"+strings.Repeat(",0 0 0", 1<<18), 16)
}

func TestLineHandedIn(t *testing.T) {
	start, a := testkit.Roomy([]int{2, 0, 2}, 1)
	final, b := testkit.Roomy([]int{2, 1, 2}, 0)
	edges, c := testkit.Roomy([]api.Edge{{From: 2, To: 1}, {From: 1}, {From: 2, To: 1}}, api.Edge{})
	for _, symbols := range []int{1, 0, -1} {
		auto := api.Auto{States: 3, Symbols: symbols, Start: start, Final: final, Edges: edges}
		for range 2 {
			s, e := formats.Line(auto)
			if symbols == 1 && (s != "3 1;0 2;1 2;1 0 0,2 0 1" || e != api.OK) {
				t.Errorf("P5.1: %q, %d", s, e)
			}
			if !a() || !b() || !c() {
				t.Fatalf("P5.10: Line changed what was handed in")
			}
		}
	}
}

func TestReadLineNewMemory(t *testing.T) {
	const s = "3 2;0 1 2;0 1 2;0 0 0,0 1 0,2 0 1"
	want, _ := formats.ReadLine(s)
	a, _ := formats.ReadLine(s)
	testkit.Scribble(a.Start, -9)
	if slices.Contains(a.Final, -9) {
		t.Errorf("P5.10: Start and Final share memory")
	}
	testkit.Scribble(a.Final, -8)
	if slices.Contains(a.Start, -8) {
		t.Errorf("P5.10: Final and Start share memory")
	}
	testkit.Scribble(a.Edges, api.Edge{From: -9})
	wantAuto(t, s, want)
	if again, e := formats.Line(want); again != s || e != api.OK {
		t.Errorf("P5.10: an answer was changed by another: %q, %d", again, e)
	}
}

func TestReadLineAnyBytes(t *testing.T) {
	r := rand.New(rand.NewPCG(5, 6))
	for range 3000 {
		b := make([]byte, r.IntN(12))
		for i := range b {
			b[i] = byte(r.IntN(256))
		}
		for _, head := range []string{"", "2 1", "2 1;", "2 1;0;1;", "2 1;0;1;0 0 0", strconv.Itoa(r.IntN(5000)) + " "} {
			wantAsModel(t, head+string(b))
		}
	}
}
