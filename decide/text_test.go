package decide_test

import (
	"fmt"
	"math/rand/v2"
	"strings"
	"testing"

	"wordset/api"
	"wordset/decide"
	"wordset/testkit"
)

func TestTexts(t *testing.T) {
	ab := []string{"a", "b"}
	for _, c := range []struct {
		o    api.Outcome
		want string
	}{
		{api.Outcome{}, "none"},
		{api.Outcome{Names: ab, File: 1, Offset: 2, Found: api.Found{Word: []int{0}, Side: 1, Pairs: 3}}, "none"},
		{api.Outcome{Code: 7}, "error 7"},
		{api.Outcome{Code: -7}, "error -7"},
		{api.Outcome{Code: lowest}, "error -9223372036854775808"},
		{api.Outcome{Code: api.ErrCross}, "error 202"},
		{api.Outcome{Code: api.ErrFile, File: 1, Found: api.Found{Yes: true}}, "error 5"},
		{api.Outcome{Code: api.ErrGrammar, File: 1, Offset: 2}, "error 30"},
		{api.Outcome{Code: api.ErrParse, File: 2, Offset: 60, Found: api.Found{Yes: true}}, "error parse 2 60"},
		{api.Outcome{Code: api.ErrParse, File: -1, Offset: lowest}, "error parse -1 -9223372036854775808"},
		{api.Outcome{Code: api.ErrLimit, File: 1, Offset: 5}, "error limit 1"},
		{api.Outcome{Code: api.ErrLimit, File: -12}, "error limit -12"},
		{api.Outcome{Code: api.ErrBudget, File: 1, Offset: 5, Found: api.Found{Has: true}}, "error budget"},
		{api.Outcome{Found: api.Found{Yes: true}}, "yes 0"},
		{api.Outcome{Found: api.Found{Yes: true, Has: true, Word: []int{1}, Side: 1, Pairs: 1234}, Names: ab}, "yes 1234"},
		{api.Outcome{Found: api.Found{Yes: true, Pairs: -3}}, "yes -3"},
		{api.Outcome{Found: api.Found{Has: true}}, "no 0 0: ()"},
		{api.Outcome{Found: api.Found{Has: true, Word: []int{1, 0, 1}, Side: 1, Pairs: 17}, Names: ab}, "no 1 17: b a b"},
		{api.Outcome{Found: api.Found{Has: true, Side: -2, Pairs: greatest}, Names: ab}, "no -2 9223372036854775807: ()"},
		{api.Outcome{Found: api.Found{Has: true, Word: []int{2}, Side: 2, Pairs: 1}, Names: ab}, "no 2 1: ?"},
		{api.Outcome{Found: api.Found{Has: true, Word: []int{-1}}, Names: ab}, "no 0 0: ?"},
		{api.Outcome{Found: api.Found{Has: true, Word: []int{0}}, Names: []string{"a", "a"}}, "no 0 0: ?"},
		{api.Outcome{Found: api.Found{Has: true}, Names: []string{"a", "a b"}}, "no 0 0: ?"},
		{api.Outcome{Found: api.Found{Has: true, Word: []int{0}}}, "no 0 0: ?"},
	} {
		if text := decide.Text(c.o); text != c.want+"\n" {
			t.Errorf("P20.4: Text(%+v): %q; it should be %q", c.o, text, c.want)
		}
	}
}

// said says what a line should be.
func said(o api.Outcome) string {
	f := o.Found
	switch {
	case o.Code == 200:
		return fmt.Sprintf("error parse %d %d\n", o.File, o.Offset)
	case o.Code == 201:
		return fmt.Sprintf("error limit %d\n", o.File)
	case o.Code == 9:
		return "error budget\n"
	case o.Code != 0:
		return fmt.Sprintf("error %d\n", o.Code)
	case f.Yes:
		return fmt.Sprintf("yes %d\n", f.Pairs)
	case !f.Has:
		return "none\n"
	}
	word := "()"
	if len(f.Word) > 0 {
		word = ""
	}
	for i, k := range f.Word {
		if k < 0 || k >= len(o.Names) {
			word = "?"
			break
		}
		word += strings.Repeat(" ", min(i, 1)) + o.Names[k]
	}
	for i, name := range o.Names {
		if strings.Trim(name, "abc") != "" || name == "" || strings.Contains(strings.Join(o.Names[:i], ":")+":", name+":") {
			word = "?"
		}
	}
	return fmt.Sprintf("no %d %d: %s\n", f.Side, f.Pairs, word)
}

// TestDrawnTexts: any outcome, whatever stands in it.
func TestDrawnTexts(t *testing.T) {
	d := testkit.Draw(rand.New(rand.NewPCG(20, 12)).IntN)
	for range 20000 {
		o := api.Outcome{Code: api.Errno([]int{0, 0, 0, 9, 200, 201, d.Odd(), d(300)}[d(8)]), File: d.Odd(), Offset: d.Odd()}
		o.Found = api.Found{Yes: d(4) == 0, Has: d(3) > 0, Side: d.Odd(), Pairs: d.Odd()}
		for range d(4) {
			o.Names = append(o.Names, []string{"a", "b", "c", "-", ""}[d(3+2*d(2))])
		}
		if o.Found.Word = d.OddList(); d(3) > 0 {
			o.Found.Word = d.List(len(o.Names), d(4))
		}
		if text := decide.Text(o); text != said(o) {
			t.Fatalf("P20.4: Text(%+v): %q; it should be %q", o, text, said(o))
		}
	}
}

// TestTextChangesNothing: what is handed in is as it was, spare room too.
func TestTextChangesNothing(t *testing.T) {
	word, sameWord := testkit.Roomy([]int{1, 0}, 0)
	list, sameList := testkit.Roomy([]string{"a", "b"}, "room")
	o := api.Outcome{Found: api.Found{Has: true, Word: word}, Names: list}
	if text := decide.Text(o); text != "no 0 0: b a\n" || !sameWord() || !sameList() {
		t.Errorf("P20.8: Text: %q, %v, %v", text, word, list)
	}
}
