package witness_test

import (
	"math/rand/v2"
	"slices"
	"strings"
	"testing"

	"wordset/api"
	"wordset/testkit"
	"wordset/witness"
)

func TestExamplesOfRender(t *testing.T) {
	wantRender(t, []int{0, 1}, []string{"a", "b"}, "a b", api.OK)
	wantRender(t, nil, nil, "()", api.OK)
	wantRender(t, []int{1}, []string{"a"}, "", api.ErrWord)
	wantRender(t, []int{0}, []string{"-"}, "", api.ErrName)
	wantRender(t, []int{0}, []string{"a", "a"}, "", api.ErrTwice)
}

// TestRenderLists: names are looked at whether the word has them or not, behind the word; what is no name goes ahead of what stands twice.
func TestRenderLists(t *testing.T) {
	long := strings.Repeat("x", 16)
	lists := listsOf([]string{"a", "b", "-", long, long + "x", ""}, 3)
	lists = append(lists, []string{"a", "a", "-"}, []string{"-", "a", "a"}, []string{"a", "b", "c", "a"}, []string{"()"}, []string{"a b"})
	seen := map[api.Errno]int{}
	for _, names := range lists {
		for _, w := range append(testkit.Words(3, 2), []int{-1}, []int{0, -1}, []int{lowest}, []int{greatest, 0}, []int{3}) {
			text, code := rendered(w, names)
			wantRender(t, w, names, text, code)
			seen[code]++
		}
	}
	for _, code := range []api.Errno{api.OK, api.ErrWord, api.ErrName, api.ErrTwice} {
		if seen[code] < 20 {
			t.Errorf("P17.5: held were %v", seen)
		}
	}
}

// listsOf gives all lists of at most so many texts out of a few.
func listsOf(pool []string, most int) [][]string {
	var lists [][]string
	for _, w := range testkit.Words(len(pool), most) {
		var list []string
		for _, k := range w {
			list = append(list, pool[k])
		}
		lists = append(lists, list)
	}
	return lists
}

func TestExamplesOfRead(t *testing.T) {
	a := []string{"a"}
	wantRead(t, " b  a", []string{"a", "b"}, []int{1, 0}, api.OK, 0)
	wantRead(t, "()", nil, nil, api.OK, 0)
	wantRead(t, "a c", a, nil, api.ErrForm, 2)
	wantRead(t, "a ()", a, nil, api.ErrForm, 2)
	wantRead(t, "() ()", a, nil, api.ErrForm, 3)
	wantRead(t, "() a", a, nil, api.ErrForm, 3)
	wantRead(t, " ", a, nil, api.ErrForm, 1)
	wantRead(t, "", a, nil, api.ErrForm, 0)
	wantRead(t, "", nil, nil, api.ErrForm, 0)
	wantRead(t, "\ta\t", a, []int{0}, api.OK, 0)
}

// TestEmptyWordBeside: of a text in which the empty word has others beside it the second word is the first that may not stand there, if no other is wrong ahead of it.
func TestEmptyWordBeside(t *testing.T) {
	names := []string{"a", "b"}
	for text, at := range map[string]int{"() a": 3, "() -": 3, "\t()\t \t()": 6, "a b ()": 4, "a () b": 2, "a () ()": 2, "- ()": 0, "a - ()": 2, "()() a": 0, "()a": 0, "a()": 0, "( )": 0, "a ( )": 2, "() () ()": 3, "  () c": 5} {
		wantRead(t, text, names, nil, api.ErrForm, at)
	}
	for _, text := range []string{"()", " ()", "() ", "\t() \t"} {
		wantRead(t, text, names, nil, api.OK, 0)
	}
}

// TestOtherBytes: only the bytes 32 and 9 are blanks; all others belong to words.
func TestOtherBytes(t *testing.T) {
	for c := range 256 {
		s := string([]byte{byte(c)})
		for _, text := range []string{s, "a" + s, s + "a", "a" + s + "b", "a b" + s, " " + s + " a", "()" + s, s + "()"} {
			w, p := read(text, []string{"a", "b", "ab"})
			wantRead(t, text, []string{"a", "b", "ab"}, w, p.Code, p.At)
		}
		if c == 32 || c == 9 {
			wantRead(t, "a"+s+"b", []string{"a", "b"}, []int{0, 1}, api.OK, 0)
		} else if !isName(s) {
			wantRead(t, "a a"+s+"b", []string{"a", "b"}, nil, api.ErrForm, 2)
		}
	}
	wantRead(t, "a\u00a0b", []string{"a", "b"}, nil, api.ErrForm, 0)
	wantRead(t, "a \u2003 b", []string{"a", "b"}, nil, api.ErrForm, 2)
}

// TestWrongNames: what is wrong with the names goes ahead of all that is wrong with the text, and is told at 0.
func TestWrongNames(t *testing.T) {
	for _, names := range listsOf([]string{"a", "b", "-", "()"}, 3) {
		for _, text := range []string{"", " ", "a", "b a", "-", "()", "a -", "a ()", "c"} {
			w, p := read(text, names)
			wantRead(t, text, names, w, p.Code, p.At)
		}
	}
	wantRead(t, " ", []string{"a", "a"}, nil, api.ErrTwice, 0)
	wantRead(t, " ", []string{"a", "a", "-"}, nil, api.ErrName, 0)
	wantRead(t, "()", []string{"()"}, nil, api.ErrName, 0)
}

// TestEveryText: all texts of a few bytes, short ones, against what Read's words say.
func TestEveryText(t *testing.T) {
	texts := []string{""}
	for from, round := 0, 0; round < 6; round++ {
		end := len(texts)
		for _, s := range texts[from:end] {
			for _, c := range "ab \t()" {
				texts = append(texts, s+string(c))
			}
		}
		from = end
	}
	lists := [][]string{{"a", "b"}, {"b", "ab", "a"}, {"ba"}, nil}
	good := 0
	for _, text := range texts {
		for _, names := range lists {
			w, p := read(text, names)
			wantRead(t, text, names, w, p.Code, p.At)
			if p.Code == api.OK {
				good++
				holdThereAndBack(t, text, names)
			}
		}
	}
	if good < 1000 {
		t.Errorf("P17.6: only %d texts were words", good)
	}
}

// holdThereAndBack says P17.7 of a text that is read.
func holdThereAndBack(t *testing.T, text string, names []string) {
	t.Helper()
	w, p := witness.Read(text, names)
	again, e := witness.Render(w, names)
	v, p2 := witness.Read(again, names)
	if p.Code != api.OK || e != api.OK || p2 != (api.Problem{}) || !slices.Equal(v, w) {
		t.Fatalf("P17.7: %q with %v is %v, %v; as a text %q, %d; read again %v, %v", text, names, w, p, again, e, v, p2)
	}
}

func TestReadOfRender(t *testing.T) {
	names := []string{"b", "a", strings.Repeat("Z", 16), "_'", "0", "ab"}
	for _, w := range testkit.Words(len(names), 4) {
		text, e := witness.Render(w, names)
		v, p := witness.Read(text, names)
		if e != api.OK || p != (api.Problem{}) || !slices.Equal(v, w) {
			t.Fatalf("P17.7: %v is %q, %d, and read again %v, %v", w, text, e, v, p)
		}
	}
}

func TestDrawnTexts(t *testing.T) {
	d := testkit.Draw(rand.New(rand.NewPCG(17, 7)).IntN)
	pieces := []string{"a", "b", "abc", "a'", "()", " ", " ", "\t", "  ", "-", "\n", "é", "(", "\xff", strings.Repeat("q", 17)}
	lists := [][]string{{"a", "b", "abc", "a'", "aa", "ab"}, {"abc", "a"}, {strings.Repeat("q", 16)}}
	codes := map[api.Errno]int{}
	for range 50000 {
		var text strings.Builder
		for range d(9) {
			text.WriteString(pieces[min(d(len(pieces)), d(len(pieces)))])
		}
		names := lists[d(len(lists))]
		w, p := read(text.String(), names)
		wantRead(t, text.String(), names, w, p.Code, p.At)
		if p.Code == api.OK {
			holdThereAndBack(t, text.String(), names)
		}
		codes[p.Code]++
	}
	if codes[api.OK] < 1000 || codes[api.ErrForm] < 1000 {
		t.Errorf("P17.6: drawn were %v", codes)
	}
}
