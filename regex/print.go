package regex

import (
	"strings"

	"wordset/api"
)

// How tightly a node holds together; where something tighter is needed, it stands in brackets.
const (
	asAlt = iota
	asCat
	asRep
)

func tightness(kind api.ExprKind) int {
	switch kind {
	case api.XAlt:
		return asAlt
	case api.XCat:
		return asCat
	}
	return asRep
}

type printer struct {
	nodes tree
	names []string
	out   strings.Builder
}

func printed(nodes tree, names []string) string {
	p := printer{nodes: nodes, names: names}
	p.write(0, asAlt)
	return p.out.String()
}

func (p *printer) write(n, needed int) {
	if tightness(p.nodes[n].Kind) >= needed {
		p.writeBare(n)
		return
	}
	p.out.WriteString("(")
	p.writeBare(n)
	p.out.WriteString(")")
}

func (p *printer) writeBare(n int) {
	head := p.nodes[n]
	switch head.Kind {
	case api.XNone:
		p.out.WriteString("~")
	case api.XEmpty:
		p.out.WriteString("%")
	case api.XSym:
		p.out.WriteString(p.names[head.Sym])
	case api.XStar:
		p.write(n+1, asRep)
		p.out.WriteString("*")
	case api.XCat:
		p.write(n+1, asRep)
		p.out.WriteString(" ")
		p.write(p.nodes.second(n), asCat)
	case api.XAlt:
		p.write(n+1, asCat)
		p.out.WriteString(" | ")
		p.write(p.nodes.second(n), asAlt)
	}
}
