package decide

import (
	"wordset/api"
	"wordset/format"
	"wordset/trim"
	"wordset/witness"
)

// matter is a query and what it is about.
type matter struct {
	query int
	a, b  api.Auto // over the merged alphabet
	own   api.Auto // the first file's over its own symbols alone
	names []string
}

// question is what the engines are asked: is every word of the first automaton one of the second? If both, the other way round too.
type question struct {
	first, second api.Auto
	both          bool
}

// newMatter takes contents that were read and are not above the limits: so nothing can go wrong.
func newMatter(files [2]api.File, query int) matter {
	m := matter{query: query}
	m.a, m.b, m.names, _ = Autos(files[0], files[1])
	m.own, _, _, _ = format.Auto(files[0])
	return m
}

// asked gives the question that the query comes to, about the useful parts of the files' automata alone if trimmed.
func (m matter) asked(trimmed bool) question {
	part := func(a api.Auto) api.Auto { return a }
	if trimmed {
		part = useful
	}
	byQuery := [...]func() question{
		func() question { return question{first: part(m.a), second: api.Auto{Symbols: m.a.Symbols}} },
		func() question { return question{first: everyWord(m.own.Symbols), second: part(m.own)} },
		func() question { return question{first: part(m.a), second: part(m.b)} },
		func() question { return question{first: part(m.a), second: part(m.b), both: true} },
	}
	return byQuery[m.query&3]() // the last two bits of every number, below 0 too, are its remainder from 0 to 3
}

func useful(a api.Auto) api.Auto {
	a, _, _ = trim.Trim(a)
	return a
}

// everyWord has one state, and takes every word over so many symbols.
func everyWord(symbols int) api.Auto {
	a := api.Auto{States: 1, Symbols: symbols, Start: []int{0}, Final: []int{0}}
	for k := range symbols {
		a.Edges = append(a.Edges, api.Edge{Sym: k})
	}
	return a
}

// settled asks the engines, one behind the other, and holds their answers against each other and against the automata. The first one's is told.
func (m matter) settled(q question, engines []engine) api.Outcome {
	var answers []api.Found
	for _, e := range engines {
		found, err := e.answer(q)
		if code := codeOf(err); code != api.OK {
			return api.Outcome{Code: code}
		}
		answers = append(answers, found)
	}
	for i, found := range answers {
		side, holds := m.sideOf(found)
		if !holds || found.Yes != answers[0].Yes {
			return api.Outcome{Code: api.ErrCross}
		}
		answers[i].Side = side
	}
	return api.Outcome{Found: answers[0], Names: m.names}
}

// sideOf tells the side of an answer's word, of a yes 0, and whether the word shows the no; there is nothing to show of a yes.
func (m matter) sideOf(found api.Found) (int, bool) {
	if found.Yes {
		return 0, true
	}
	shows, side, _ := witness.Shows(m.query, m.a, m.b, found.Word)
	return side, shows
}
