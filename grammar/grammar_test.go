package grammar_test

import (
	"math/rand/v2"
	"strconv"
	"strings"
	"testing"

	"wordset/api"
	"wordset/grammar"
)

// five is the text F of the chapter's examples; least is the least file.
const (
	five    = "Ops a:1\nAutomaton x\nStates\nFinal States\nTransitions"
	least   = "Ops\nAutomaton\t'\nStates\nFinal States\nTransitions"
	letters = "0123456789ABCDEFGHIJKLMNOPQRSTUVWXYZ_abcdefghijklmnopqrstuvwxyz"
	rich    = "\t\n \nOps start:0 \ta:1 b_':0  \n\n \nAutomaton \tName9\t \n\nStates p q\tr \n \nFinal States q  r\t\n\t\nTransitions \n\nstart() -> p\na(p)->q \n \nb_'(q)\t->r\nz()->  " + "\tABCDEFGHIJKLMNOP \n"
)

func wantFile(t *testing.T, text string) {
	t.Helper()
	if n, e := grammar.Check(text); n != len(text) || e != api.OK {
		t.Errorf("Check(%q) = %d, %d, want %d, OK", text, n, e, len(text))
	}
}

func wantRefused(t *testing.T, text string, at int) {
	t.Helper()
	if n, e := grammar.Check(text); n != at || e != api.ErrGrammar {
		t.Errorf("Check(%q) = %d, %d, want %d, ErrGrammar", text, n, e, at)
	}
}

func wantFollow(t *testing.T, text, bytes string, file bool) {
	t.Helper()
	if b, f, e := grammar.Follow(text); b != bytes || f != file || e != api.OK {
		t.Errorf("Follow(%q) = %q, %v, %d, want %q, %v, OK", text, b, f, e, bytes, file)
	}
}

func wantComplete(t *testing.T, text, rest string) {
	t.Helper()
	if s, e := grammar.Complete(text); s != rest || e != api.OK {
		t.Errorf("Complete(%q) = %q, %d, want %q, OK", text, s, e, rest)
	}
}

func wantNoBeginning(t *testing.T, text string) {
	t.Helper()
	if b, f, e := grammar.Follow(text); b != "" || f || e != api.ErrGrammar {
		t.Errorf("P3.2: Follow(%q) = %q, %v, %d, want ErrGrammar alone", text, b, f, e)
	}
	if s, e := grammar.Complete(text); s != "" || e != api.ErrGrammar {
		t.Errorf("P3.3: Complete(%q) = %q, %d, want ErrGrammar alone", text, s, e)
	}
}

// TestExamples: every row of the chapter's table.
func TestExamples(t *testing.T) {
	for _, s := range []string{five, five + "\n", five + "  ", five + "\n\t"} {
		wantFile(t, s)
	}
	head := "Ops\nAutomaton x\nStates "
	for _, c := range []struct {
		text string
		at   int
	}{
		{"", 0}, {"Ops", 3}, {five[:len(five)-1], len(five) - 1},
		{"Ops a:2", 6}, {"Ops a:1b", 7}, {"Ops a : 1", 5}, {" Ops", 1},
		{"\n \t\nOps\n\nAutomaton x", 20},
		{"Ops\nAutomaton  x  \nStates p\tq\nFinal  States", 36},
		{head + strings.Repeat("a", 17), 39},
		{five + "\na(q) - > p", len(five + "\na(q) -")},
		{five + "\na( q)->p", len(five + "\na(")},
		{"Ops\r\n", 3},
	} {
		wantRefused(t, c.text, c.at)
	}
	wantFile(t, five+"\na(q)->p")
	wantFile(t, five+"\na()  -> p ")

	wantFollow(t, "", "\t\n O", false)
	wantFollow(t, "Op", "s", false)
	wantFollow(t, "Ops", "\t\n ", false)
	wantFollow(t, "Ops a:", "01", false)
	wantFollow(t, five, "\t\n ", true)
	wantFollow(t, five+"\n", "\t\n '"+letters, true)
	wantFollow(t, " ", "\t\n ", false)

	wantComplete(t, "", least)
	wantComplete(t, five+"\na(q", ")->'")
	wantComplete(t, "Ops a:", "0"+least[3:])
	wantComplete(t, " ", "\n"+least)
	wantNoBeginning(t, "Opt")
}

// TestCheckWhole (P3.1, files): ordinary ones.
func TestCheckWhole(t *testing.T) {
	for _, s := range []string{
		least, five, rich,
		"Ops a:0 a:1\nAutomaton Ops\nStates Final States\nFinal States States Final\nTransitions\nTransitions(Ops) -> Automaton",
		"Ops  a:0\tb:1\nAutomaton 9\nStates '\nFinal States _\nTransitions\na(never)->declared",
		five + "\na()->p\na()->p\na(p)->p\na(p)->p",
	} {
		wantFile(t, s)
	}
}

// TestCheckRefused (P3.1, no files): at the longest beginning, wherever a text goes wrong.
func TestCheckRefused(t *testing.T) {
	for _, c := range []struct{ good, bad string }{
		{"", "ops"}, {"", "Automaton x"}, {"", ":"}, {"", "\r\n"}, {"", "#"}, {"", "\x00"}, {"", "\xef\xbb\xbfOps"},
		{"O", "PS"}, {"Op", "t"}, {"Ops", "a:1"}, {"Ops", ":"}, {"Ops", "Ops"},
		{"Ops a", " "}, {"Ops a", "\n"}, {"Ops a", "\t:1"}, {"Ops a", "-"}, {"Ops a", "(:1"}, {"Ops ", ":1"}, {"Ops ", "\xc3\xa9:1"},
		{"Ops a:", " 1"}, {"Ops a:", "\n"}, {"Ops a:", "x"}, {"Ops a:", "2"}, {"Ops a:", ":"}, {"Ops a:1", "0"}, {"Ops a:1", ":"},
		{"Ops\n", "Ops"}, {"Ops\n", "States"}, {"Ops\n ", "Automaton"}, {"Ops\nAutomaton", "\n"}, {"Ops\nAutomaton", "x"}, {"Ops\nAutomaton ", "\n"}, {"Ops\nAutomaton x ", "y"}, {"Ops\nAutomaton x", ":"},
		{"Ops\nAutomaton x\n", "Final"}, {"Ops\nAutomaton x\n\t", "States"}, {"Ops\nAutomaton x\nS", "s"}, {"Ops\nAutomaton x\nStates", "p"}, {"Ops\nAutomaton x\nStates p", ","}, {"Ops\nAutomaton x\nStates p", ":1"}, {"Ops\nAutomaton x\nStates p", "\r"},
		{"Ops\nAutomaton x\nStates\n", "Transitions"}, {"Ops\nAutomaton x\nStates\nFinal", "\tStates"}, {"Ops\nAutomaton x\nStates\nFinal", "States"}, {"Ops\nAutomaton x\nStates\nFinal", "\n"}, {"Ops\nAutomaton x\nStates\nFinal ", " States"}, {"Ops\nAutomaton x\nStates\nFinal States", "p"}, {"Ops\nAutomaton x\nStates\n ", "Final"},
		{"Ops\nAutomaton x\nStates\nFinal States\n", "a"}, {"Ops\nAutomaton x\nStates\nFinal States\n ", "T"}, {least[:len(least)-1], "\n"},
		{least, "a"}, {least, "("}, {least + " ", "a"}, {least + "\n", "("}, {least + "\n", "-"}, {least + "\n ", "a()->p"},
		{least + "\na", " "}, {least + "\na", "\n"}, {least + "\na", ":"}, {least + "\na", ")"}, {least + "\na(", "("}, {least + "\na(", "\t"}, {least + "\na(", "\n"},
		{least + "\na(p", " "}, {least + "\na(p", ",q"}, {least + "\na(p", "("}, {least + "\na()", ")"}, {least + "\na()", "p"}, {least + "\na()", ">"}, {least + "\na()", "\n"},
		{least + "\na()-", " "}, {least + "\na()-", "-"}, {least + "\na()-", "p"}, {least + "\na() \t-", "\n"}, {least + "\na()->", ">"}, {least + "\na()->", "\n"}, {least + "\na()->", "-"}, {least + "\na()-> ", "\n"},
		{least + "\na()->p", "("}, {least + "\na()->p ", "q"}, {least + "\na()->p ", "-"}, {least + "\na()->p\n ", "b()->p"},
	} {
		wantRefused(t, c.good+c.bad, len(c.good))
		wantRefused(t, c.good+c.bad+"\n"+least, len(c.good))
		wantNoBeginning(t, c.good+c.bad)
	}
}

// TestTooEarly (P3.1): whatever ends ahead of the last header line's end, or within a rule, is refused at its length.
func TestTooEarly(t *testing.T) {
	end := strings.Index(rich, "Transitions") + len("Transitions")
	for n := range rich[:end] {
		wantRefused(t, rich[:n], n)
	}
	wantFile(t, rich[:end])
	for rule, n := "a(q) -> p", 1; n < len(rule); n++ {
		wantRefused(t, least+"\n"+rule[:n], len(least)+1+n)
	}
}

// TestLongNames (P3.1, P3.2): sixteen bytes may stand wherever a name does, the seventeenth may not.
func TestLongNames(t *testing.T) {
	for _, c := range []struct{ head, tail, next string }{
		{"Ops ", ":1\n" + least[4:], ":"},
		{"Ops a:0 b:1 ", ":1\n" + least[4:], ":"},
		{"Ops\nAutomaton ", "\n" + least[16:], "\t\n "},
		{"Ops\nAutomaton x\nStates ", "\nFinal States\nTransitions", "\t\n "},
		{"Ops\nAutomaton x\nStates\nFinal States p ", "\nTransitions", "\t\n "},
		{least + "\n", "()->p", "("},
		{least + "\na(", ")->p", ")"},
		{least + "\na()->", "", "\t\n "},
	} {
		for n := 1; n <= 16; n++ {
			wantFile(t, c.head+strings.Repeat("'", n)+c.tail)
		}
		full := c.head + "aZ09_'bYcXdWeVfU"
		wantFile(t, full+c.tail)
		for _, b := range []byte("'" + letters) {
			wantRefused(t, full+string(b)+c.tail, len(full))
		}
		wantFollow(t, full, c.next, c.tail == "")
	}
}

// TestLines (P3.5): blanks at lines' ends, empty lines, and a last line feed make no file none.
func TestLines(t *testing.T) {
	for _, file := range []string{least, five, strings.TrimSuffix(rich, "\n"), five + "\na()->p\nb(p)->q"} {
		lines := strings.Split(file, "\n")
		for at := range lines {
			for _, blanks := range []string{" ", "\t", "  ", "\t ", " \t\t  "} {
				wantFile(t, joined(lines, at, lines[at]+blanks))
				wantFile(t, joined(lines, at, blanks+"\n"+lines[at]))
				wantFile(t, joined(lines, at, lines[at]+"\n"+blanks))
				wantFile(t, joined(lines, at, lines[at]+blanks)+"\n")
				if strings.Trim(lines[at], " \t") != "" {
					ahead := strings.Join(lines[:at], "\n")
					if at > 0 {
						ahead += "\n"
					}
					wantRefused(t, joined(lines, at, blanks+lines[at]), len(ahead+blanks))
				}
			}
			wantFile(t, joined(lines, at, "\n\n\n"+lines[at]))
			wantFile(t, joined(lines, at, lines[at]+"\n\n\n"))
		}
		wantFile(t, file+"\n")
		wantFile(t, file+"\n\n \n\t\n ")
	}
}

// joined gives the lines as one text, one of them changed.
func joined(lines []string, at int, line string) string {
	changed := append([]string(nil), lines...)
	changed[at] = line
	return strings.Join(changed, "\n")
}

// TestFollowPlaces (P3.2): the bytes at each place of the grammar.
func TestFollowPlaces(t *testing.T) {
	name, blanks := "'"+letters, "\t "
	within := strings.Replace
	for _, c := range []struct {
		text, bytes string
		file        bool
	}{
		{"\n\n", "\t\n O", false}, {"\t \t", "\t\n ", false}, {"O", "p", false},
		{"Ops ", "\t\n " + name, false}, {"Ops a", within(name, "9A", "9:A", 1), false}, {"Ops a:1", "\t\n ", false}, {"Ops a:0 ", "\t\n " + name, false},
		{"Ops\n", "\t\n A", false}, {"Ops\n ", "\t\n ", false}, {"Ops\nAutomaton", blanks, false}, {"Ops\nAutomaton\t", blanks + name, false}, {"Ops\nAutomaton x", "\t\n " + name, false}, {"Ops\nAutomaton x ", "\t\n ", false},
		{"Ops\nAutomaton x\n", "\t\n S", false}, {"Ops\nAutomaton x\nStates", "\t\n ", false}, {"Ops\nAutomaton x\nStates ", "\t\n " + name, false}, {"Ops\nAutomaton x\nStates p", "\t\n " + name, false},
		{"Ops\nAutomaton x\nStates\n", "\t\n F", false}, {"Ops\nAutomaton x\nStates\nFinal", " ", false}, {"Ops\nAutomaton x\nStates\nFinal ", "S", false}, {"Ops\nAutomaton x\nStates\nFinal States p ", "\t\n " + name, false},
		{"Ops\nAutomaton x\nStates\nFinal States\n", "\t\n T", false}, {least + "\t", "\t\n ", true}, {least + "\n", "\t\n " + name, true}, {least + "\n ", "\t\n ", true},
		{least + "\na", "'(" + letters, false}, {least + "\na(", "')" + letters, false}, {least + "\na(q", "')" + letters, false}, {least + "\na(q)", "\t -", false}, {least + "\na() ", "\t -", false}, {least + "\na()-", ">", false}, {least + "\na()->", blanks + name, false}, {least + "\na()-> ", blanks + name, false}, {least + "\na()->p", "\t\n " + name, true}, {least + "\na()->p ", "\t\n ", true},
	} {
		wantFollow(t, c.text, c.bytes, c.file)
	}
}

// TestCompletePlaces (P3.3): the shortest text and the least of those, at each place of the grammar.
func TestCompletePlaces(t *testing.T) {
	for n := range least {
		wantComplete(t, least[:n], least[n:])
	}
	tail := least[len("Ops\nAutomaton\t'"):]
	for _, c := range [][2]string{
		{"\n", least}, {"\n\t", "\n" + least}, {"Ops ", "\nAutomaton\t'" + tail}, {"Ops a", ":0\nAutomaton\t'" + tail}, {"Ops aaaaaaaaaaaaaaaa", ":0\nAutomaton\t'" + tail}, {"Ops a:1", "\nAutomaton\t'" + tail}, {"Ops a:1 ", "\nAutomaton\t'" + tail},
		{"Ops\n ", "\nAutomaton\t'" + tail}, {"Ops\nAutomaton ", "'" + tail}, {"Ops\nAutomaton x", tail}, {"Ops\nAutomaton x ", tail}, {"Ops\nAutomaton x\n", tail[1:]}, {"Ops\nAutomaton x\n ", tail},
		{"Ops\nAutomaton x\nStates p", tail[7:]}, {"Ops\nAutomaton x\nStates\n ", tail[7:]}, {"Ops\nAutomaton x\nStates\nFinal States p\t", tail[20:]}, {"Ops\nAutomaton x\nStates\nFinal States\n ", tail[20:]},
		{least, ""}, {least + " ", ""}, {least + "\n", ""}, {least + "\n ", ""}, {least + "\na", "()->'"}, {least + "\naaaaaaaaaaaaaaaa", "()->'"}, {least + "\na(", ")->'"}, {least + "\na(q", ")->'"}, {least + "\na()", "->'"}, {least + "\na(q) ", "->'"}, {least + "\na()-", ">'"}, {least + "\na()->", "'"}, {least + "\na()->\t", "'"}, {least + "\na()->q", ""}, {rich, ""},
	} {
		wantComplete(t, c[0], c[1])
	}
}

// agree holds the three calls of one text against the model, and against each other as P3.4 says.
func agree(t *testing.T, text string) {
	t.Helper()
	at, end := model.longest(text)
	want := api.ErrGrammar
	if at == len(text) && end.file {
		want = api.OK
	}
	if n, e := grammar.Check(text); n != at || e != want {
		t.Fatalf("P3.1: Check(%q) = %d, %d, want %d, %d", text, n, e, at, want)
	}
	if at < len(text) {
		wantNoBeginning(t, text)
		wantNoBeginning(t, text[:at+1])
	}
	begin := text[:at]
	follow, file, e := grammar.Follow(begin)
	if follow != end.bytes || file != end.file || e != api.OK {
		t.Fatalf("P3.2: Follow(%q) = %q, %v, %d, want %q, %v", begin, follow, file, e, end.bytes, end.file)
	}
	rest, e := grammar.Complete(begin)
	if rest != end.rest || e != api.OK {
		t.Fatalf("P3.3: Complete(%q) = %q, %d, want %q", begin, rest, e, end.rest)
	}
	if m, e := grammar.Check(begin + rest); m != len(begin)+len(rest) || e != api.OK {
		t.Fatalf("P3.4: %q and Complete of it is no file: %d, %d", begin, m, e)
	}
	if at < len(text) && strings.IndexByte(follow, text[at]) >= 0 {
		t.Fatalf("P3.4: Check(%q) is refused at %d, but Follow has the byte", text, at)
	}
}

// TestEveryPlace (P3.1 to P3.4): from each place of the model, behind the shortest text that leads there, every byte.
func TestEveryPlace(t *testing.T) {
	if len(model.all) < 150 {
		t.Errorf("the model has only %d places", len(model.all))
	}
	for _, place := range model.all {
		agree(t, place.text)
		follow, file, _ := grammar.Follow(place.text)
		if n, e := grammar.Check(place.text); n != len(place.text) || (e == api.OK) != file {
			t.Fatalf("P3.4: Check(%q) = %d, %d, Follow says %v", place.text, n, e, file)
		}
		for b := range 256 {
			longer := place.text + string([]byte{byte(b)})
			n, e := grammar.Check(longer)
			if on := strings.IndexByte(follow, byte(b)) >= 0; on != (n == len(longer)) || (!on && (n != len(place.text) || e != api.ErrGrammar)) {
				t.Fatalf("P3.4: Check(%q) = %d, %d, Follow(%q) = %q", longer, n, e, place.text, follow)
			}
			if place.next[b] != nil {
				agree(t, longer)
			}
		}
	}
}

// TestChangedFiles (P3.1 to P3.4): files cut, stretched and spoilt, against the model.
func TestChangedFiles(t *testing.T) {
	r := rand.New(rand.NewPCG(3, 4))
	for range 1200 {
		text := randomFile(r)
		wantFile(t, text)
		agree(t, text)
		agree(t, text[:r.IntN(len(text)+1)])
		for range 3 {
			text = spoilt(r, text)
			agree(t, text)
		}
	}
}

func pick(r *rand.Rand, of ...string) string { return of[r.IntN(len(of))] }

func several(r *rand.Rand, most int, one func() string) string {
	var out strings.Builder
	for range r.IntN(most + 1) {
		out.WriteString(one())
	}
	return out.String()
}

// randomFile derives a text by the grammar, as the document writes it.
func randomFile(r *rand.Rand) string {
	blanks := func() string { return pick(r, " ", "\t", "  ", " \t ") }
	maybe := func() string { return pick(r, "", blanks()) }
	end := func() string { return maybe() + "\n" }
	empties := func() string { return several(r, 2, end) }
	name := func() string {
		return pick(r, "'", "a", "q0", "Ops", "States", "0", "1", "_", strings.Repeat("n", 1+r.IntN(16)))
	}
	names := func() string { return several(r, 3, func() string { return blanks() + name() }) }
	op := func() string { return blanks() + name() + ":" + pick(r, "0", "1") }
	rule := func() string {
		return name() + "(" + pick(r, "", name()) + ")" + maybe() + "->" + maybe() + name() + end()
	}
	text := empties() + "Ops" + several(r, 3, op) + end() +
		empties() + "Automaton" + blanks() + name() + end() +
		empties() + "States" + names() + end() +
		empties() + "Final States" + names() + end() +
		empties() + "Transitions" + end() + several(r, 4, func() string { return pick(r, rule(), end()) })
	return strings.TrimSuffix(text, "\n")
}

func spoilt(r *rand.Rand, text string) string {
	const some = "\t\n\r  '()->:_019AOSFTaz#\x00\xff"
	at := r.IntN(len(text) + 1)
	b := string(some[r.IntN(len(some))])
	switch rest := text[at:]; {
	case r.IntN(3) == 0:
		return text[:at] + b + rest
	case rest == "":
		return text + b
	case r.IntN(2) == 0:
		return text[:at] + rest[1:]
	default:
		return text[:at] + b + rest[1:]
	}
}

// TestAnyText (P3.6): all short texts, bytes of every kind, and long texts; with the model's answers.
func TestAnyText(t *testing.T) {
	agree(t, "")
	for a := range 256 {
		agree(t, string([]byte{byte(a)}))
		for b := range 256 {
			text := string([]byte{byte(a), byte(b)})
			at, _ := model.longest(text)
			wantRefused(t, text, at)
		}
	}
	r := rand.New(rand.NewPCG(5, 6))
	for range 2000 {
		bytes := make([]byte, r.IntN(60))
		for i := range bytes {
			bytes[i] = byte(r.Uint32())
		}
		agree(t, string(bytes))
		agree(t, least+"\n"+string(bytes))
	}
}

// TestLongTexts (P3.6).
func TestLongTexts(t *testing.T) {
	const much = 1 << 20
	var rules strings.Builder
	for i := range much / 16 {
		rules.WriteString("\nop(s" + strconv.Itoa(i) + ") -> t" + strconv.Itoa(i))
	}
	feeds, blanks := strings.Repeat("\n", much), strings.Repeat("\t ", much)
	for _, file := range []string{feeds + least, least + feeds, least + blanks, blanks + "\n" + least, least + rules.String(), "Ops" + strings.Repeat(" a:1", much) + least[3:], least + "\na()" + blanks + "->" + blanks + "p"} {
		if n, e := grammar.Check(file); n != len(file) || e != api.OK {
			t.Errorf("Check of a long file = %d, %d, want %d", n, e, len(file))
		}
		if n, e := grammar.Check(file + "\v"); n != len(file) || e != api.ErrGrammar {
			t.Errorf("Check of a long text = %d, %d, want %d", n, e, len(file))
		}
		if s, e := grammar.Complete(file); s != "" || e != api.OK {
			t.Errorf("Complete of a long file = %q, %d", s, e)
		}
	}
	if n, e := grammar.Check(strings.Repeat("x", much)); n != 0 || e != api.ErrGrammar {
		t.Errorf("Check of a long wrong text = %d, %d", n, e)
	}
	if s, e := grammar.Complete(blanks); s != "\n"+least || e != api.OK {
		t.Errorf("Complete of many blanks = %q, %d", s, e)
	}
}
