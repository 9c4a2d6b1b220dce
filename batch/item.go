package batch

import (
	"strings"

	"wordset/api"
	"wordset/grammar"
	"wordset/names"
	"wordset/regex"
)

// shelf has items by their names.
type shelf map[string]Item

func (s shelf) has(name string) bool {
	_, there := s[name]
	return there
}

// free tells whether an item may have a name.
func (s shelf) free(name string) bool { return names.Valid(name) && !s.has(name) }

// mayHave tells whether an item may be put beside those that are there.
func (s shelf) mayHave(it Item) bool { return s.free(it.Name) && textMayBe(it) }

func textMayBe(it Item) bool {
	if it.Expr {
		_, _, problem := expression(it.Text)
		return problem.Code == api.OK && trimmed(it.Text) == it.Text // a line feed is in no expression's text
	}
	_, err := grammar.Check(it.Text)
	return err == api.OK && strings.HasSuffix(it.Text, "\n")
}

// expression gives the expression of a text, and the names that its symbols have in it.
func expression(text string) (api.Expr, []string, api.Problem) {
	own := namesIn(text)
	e, problem := regex.Parse(text, own)
	return e, own, problem
}

// namesIn gives the names in an expression's text, each once, in the order in which they first stand there; what may not be one, and what is one too many, is left out, so that regex refuses it.
func namesIn(text string) []string {
	met, _ := names.New(api.MaxSymbols)
	for name := range strings.FieldsFuncSeq(text, inNoName) {
		met.Add(name)
	}
	return met.List()
}

func inNoName(r rune) bool { return !names.Valid(string(r)) }
