package batch

import (
	"wordset/api"
	"wordset/format"
	"wordset/names"
	"wordset/position"
)

// content is what the questions need of an item's content; where they can't have it, it has the reason.
type content struct {
	text    string // the canonical one
	noText  error
	auto    api.Auto
	symbols []string // their names
	noAuto  error
}

func contentOf(it Item) content {
	f, err := fileOf(it)
	if err != nil {
		return content{noText: err, noAuto: err}
	}
	var c content
	c.text, _ = format.Print(f) // nothing can go wrong: what was read or made may be
	a, _, symbols, code := format.Auto(f)
	c.auto, c.symbols, c.noAuto = a, symbols, refused(code)
	return c
}

func fileOf(it Item) (api.File, error) {
	if it.Expr {
		return fileOfExpression(it)
	}
	f, problem := format.Parse(it.Text)
	return f, refused(problem.Code)
}

func fileOfExpression(it Item) (api.File, error) {
	e, symbols, _ := expression(it.Text)
	a, err := position.Build(e, len(symbols))
	if err != api.OK {
		return api.File{}, refused(err)
	}
	states, _ := names.Numbered("q", a.States)
	f, err := format.From(a, states, symbols, it.Name)
	return f, refused(err)
}
