package regex

import (
	"wordset/api"
	"wordset/names"
)

// role is what a sign does.
type role int

const (
	stranger role = iota // it stands nowhere
	blank
	atom
	opening
	closing
	bar
	star
	plus
	maybe
)

// sign is a byte that is no part of a name.
type sign struct {
	letter byte
	role   role
	kind   api.ExprKind // of an atom: its node's
	behind bool         // it must stand behind an atom or what was made of one
}

var signs = [...]sign{
	{letter: ' ', role: blank},
	{letter: '\t', role: blank},
	{letter: '~', role: atom, kind: api.XNone},
	{letter: '%', role: atom, kind: api.XEmpty},
	{letter: '(', role: opening},
	{letter: ')', role: closing, behind: true},
	{letter: '|', role: bar, behind: true},
	{letter: '*', role: star, behind: true},
	{letter: '+', role: plus, behind: true},
	{letter: '?', role: maybe, behind: true},
}

// signOf gives a byte's row; of a byte without one, a stranger.
func signOf(letter byte) sign {
	for _, s := range signs {
		if s.letter == letter {
			return s
		}
	}
	return sign{}
}

// group is what stands in a bracket so far: the cats that a bar has ended, and the reps behind the last bar.
type group struct {
	cats, reps []tree
}

func (g *group) endCat() {
	g.cats = append(g.cats, node(api.XCat, g.reps...))
	g.reps = nil
}

func (g *group) whole() tree {
	g.endCat()
	return node(api.XAlt, g.cats...)
}

// parser goes through a text to its end, for wrong syntax goes ahead of all else that may be wrong.
type parser struct {
	text    string
	at      int
	numbers *names.Table
	begun   []group // the whole text, and in it each bracket that is open
	ready   bool    // an atom, or what was made of one, stands ahead
	size    int     // how many nodes the expression has by now
	unknown int     // where the first unknown name stands; -1: nowhere
}

func parsed(text string, numbers *names.Table) tree {
	p := parser{text: text, numbers: numbers, begun: make([]group, 1), unknown: -1}
	for p.at < len(text) {
		if names.Valid(text[p.at : p.at+1]) {
			p.name()
		} else {
			p.sign(signOf(text[p.at]))
		}
	}
	p.expect(p.ready && len(p.begun) == 1)
	if p.unknown >= 0 {
		refuse(api.ErrUnknown, p.unknown)
	}
	demand(!p.tooLarge(), api.ErrSize)
	return p.inner().whole()
}

// expect gives up at the place that was come to.
func (p *parser) expect(holds bool) {
	if !holds {
		refuse(api.ErrSyntax, p.at)
	}
}

func (p *parser) inner() *group { return &p.begun[len(p.begun)-1] }

// tooLarge tells that there will be no expression: from then on none is made, so that a long text costs no more than going through it.
func (p *parser) tooLarge() bool { return p.size > api.MaxExpr }

// name takes the longest run of a name's bytes.
func (p *parser) name() {
	begin := p.at
	for p.at < len(p.text) && names.Valid(p.text[p.at:p.at+1]) {
		p.expect(names.Valid(p.text[begin : p.at+1]))
		p.at++
	}
	sym, err := p.numbers.Find(p.text[begin:p.at])
	if err != api.OK && p.unknown < 0 {
		p.unknown = begin
	}
	p.leaf(api.XSym, sym)
}

func (p *parser) sign(s sign) {
	p.expect(s.role != stranger && (p.ready || !s.behind))
	switch s.role {
	case atom:
		p.leaf(s.kind, 0)
	case opening:
		p.begun = append(p.begun, group{})
		p.ready = false
	case closing:
		p.expect(len(p.begun) > 1)
		p.endGroup()
	case bar:
		p.endCat()
	case star, plus, maybe:
		p.repeat(s.role)
	}
	p.at++
}

func (p *parser) leaf(kind api.ExprKind, sym int) {
	p.size++
	p.put(leaf(kind, sym))
	p.ready = true
}

// put lays a rep behind those that the innermost group has.
func (p *parser) put(rep tree) {
	if len(p.inner().reps) > 0 {
		p.size++
	}
	if !p.tooLarge() {
		p.inner().reps = append(p.inner().reps, rep)
	}
}

func (p *parser) endCat() {
	p.size++
	if !p.tooLarge() {
		p.inner().endCat()
	}
	p.ready = false
}

func (p *parser) endGroup() {
	group := p.inner()
	p.begun = p.begun[:len(p.begun)-1]
	if !p.tooLarge() {
		p.put(group.whole())
	}
}

// repeat makes another rep of the last one.
func (p *parser) repeat(how role) {
	if p.tooLarge() {
		return
	}
	reps := p.inner().reps
	last := &reps[len(reps)-1]
	made := repeated(*last, how)
	p.size += len(made) - len(*last)
	*last = made
}

func repeated(x tree, how role) tree {
	switch how {
	case star:
		return node(api.XStar, x)
	case plus:
		return node(api.XCat, x, node(api.XStar, x))
	}
	return node(api.XAlt, x, leaf(api.XEmpty, 0))
}
