package decide

import (
	"errors"
	"slices"
	"testing"

	"wordset/api"
)

// fake answers what it was made to, and keeps what it was asked.
type fake struct {
	found api.Found
	err   error
	asked *[]question
}

func (f fake) answer(q question) (api.Found, error) {
	*f.asked = append(*f.asked, q)
	return f.found, f.err
}

// one takes the word 0 alone, two the words 0 and 1.
func one() api.Auto {
	return api.Auto{States: 2, Symbols: 2, Start: []int{0}, Final: []int{1}, Edges: []api.Edge{{To: 1}}}
}

func two() api.Auto {
	a := one()
	a.Edges = append(a.Edges, api.Edge{Sym: 1, To: 1})
	return a
}

func said(word ...int) fake { return fake{found: api.Found{Has: true, Word: word, Side: 9, Pairs: 3}} }

func yes() fake { return fake{found: api.Found{Yes: true, Pairs: 4}} }

func refusing(code api.Errno) fake { return fake{err: refused(code)} }

// TestCross: what no two right engines can answer is told.
func TestCross(t *testing.T) {
	for _, c := range []struct {
		query   int
		engines []fake
		code    api.Errno
		side    int
	}{
		{2, []fake{said(1), said(1)}, api.OK, 1},
		{3, []fake{said(1), said(1)}, api.OK, 1},
		{0, []fake{said(1), said(0)}, api.OK, 0},
		{1, []fake{said(), said(0, 0)}, api.OK, 0},
		{2, []fake{yes(), yes()}, api.OK, 0},
		{2, []fake{yes()}, api.OK, 0},
		{2, []fake{said(1), yes()}, api.ErrCross, 0},
		{2, []fake{yes(), said(1)}, api.ErrCross, 0},
		{2, []fake{said(1), said(0)}, api.ErrCross, 0},
		{2, []fake{said(0), said(1)}, api.ErrCross, 0},
		{2, []fake{said(0), said(0)}, api.ErrCross, 0},
		{2, []fake{said(0)}, api.ErrCross, 0},
		{3, []fake{said(0, 0)}, api.ErrCross, 0},
		{0, []fake{said()}, api.ErrCross, 0},
		{1, []fake{said(1), said(0)}, api.ErrCross, 0},
		{2, []fake{said(2), said(1)}, api.ErrCross, 0},
		{2, []fake{said(1), said(-1)}, api.ErrCross, 0},
		{-2, []fake{said(1), said(1)}, api.OK, 1},
		{7, []fake{said(1), said(1)}, api.OK, 1},
		{2, []fake{refusing(api.ErrBudget), yes()}, api.ErrBudget, 0},
		{2, []fake{yes(), refusing(api.ErrBudget)}, api.ErrBudget, 0},
		{2, []fake{said(0), refusing(api.ErrBudget)}, api.ErrBudget, 0},
		{2, []fake{refusing(api.ErrSize)}, api.ErrSize, 0},
	} {
		m := matter{query: c.query, a: two(), b: one(), own: two(), names: []string{"x", "y"}}
		q := m.asked(false)
		var asked []question
		var engines []engine
		for _, f := range c.engines {
			f.asked = &asked
			engines = append(engines, f)
		}
		o := m.settled(q, engines)
		want := api.Outcome{Code: c.code}
		if c.code == api.OK {
			want = api.Outcome{Found: c.engines[0].found, Names: m.names}
			want.Found.Side = c.side
		}
		if o.Code != want.Code || o.Found.Yes != want.Found.Yes || o.Found.Has != want.Found.Has || o.Found.Side != want.Found.Side || o.Found.Pairs != want.Found.Pairs || !slices.Equal(o.Found.Word, want.Found.Word) || !slices.Equal(o.Names, want.Names) {
			t.Errorf("P20.1: query %d, %+v: %+v; it should be %+v", c.query, c.engines, o, want)
		}
		if c.code == api.OK && len(asked) != len(engines) {
			t.Errorf("P20.1: query %d: %d of %d engines were asked", c.query, len(asked), len(engines))
		}
	}
}

// TestSecondLacks: the side of a word that the second automaton alone takes.
func TestSecondLacks(t *testing.T) {
	var asked []question
	told := said(1)
	told.asked = &asked
	m := matter{query: 3, a: one(), b: two(), own: one()}
	if o := m.settled(m.asked(true), []engine{told, told}); o.Code != api.OK || o.Found.Side != 2 {
		t.Errorf("P20.1: %+v", o)
	}
}

// TestRefusal: the number that an error wraps is known again, within other errors too.
func TestRefusal(t *testing.T) {
	if err := refused(api.OK); err != nil || codeOf(nil) != api.OK {
		t.Errorf("refused(OK): %v", err)
	}
	for _, code := range []api.Errno{api.ErrBudget, api.ErrSize, api.ErrAuto} {
		err := refused(code)
		if codeOf(err) != code || codeOf(errors.Join(errors.New("other"), err)) != code {
			t.Errorf("refused(%d): %v", code, err)
		}
	}
	if text := refused(api.ErrBudget).Error(); text != "refused with the number 9" {
		t.Errorf("refused: %q", text)
	}
	if codeOf(errors.New("other")) != api.OK {
		t.Errorf("codeOf another error")
	}
}

// TestChosen: which engines a number asks for, in which order, with what.
func TestChosen(t *testing.T) {
	o := api.Options{Trim: true, Simul: true}
	for number, want := range map[int][]engine{
		0: {antichains{true, 5}, congruence{o, 5}}, 1: {antichains{true, 5}}, 2: {congruence{o, 5}}, 3: {antichains{true, 5}, congruence{o, 5}}, -1: {antichains{true, 5}, congruence{o, 5}},
	} {
		if got := chosen(number, o, 5); !slices.Equal(got, want) {
			t.Errorf("P20.1: engine %d: %v", number, got)
		}
	}
}

// TestAskedWithTrim: what is trimmed is each automaton of the files that is asked, and no other.
func TestAskedWithTrim(t *testing.T) {
	useless := func(a api.Auto, states int) api.Auto {
		a.States += states
		return a
	}
	m := matter{a: useless(one(), 3), b: useless(two(), 5), own: useless(one(), 7)}
	for query, states := range [4][4]int{{5, 0, 2, 0}, {1, 9, 1, 2}, {5, 7, 2, 2}, {5, 7, 2, 2}} {
		for _, like := range []int{query, query - 4, query + 400} {
			m.query = like
			whole, part := m.asked(false), m.asked(true)
			if got := [4]int{whole.first.States, whole.second.States, part.first.States, part.second.States}; got != states || whole.both != (query == 3) || part.both != whole.both {
				t.Errorf("P20.1: query %d: %v states, both ways: %v", like, got, whole.both)
			}
		}
	}
}
