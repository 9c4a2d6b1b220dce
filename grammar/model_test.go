package grammar_test

import (
	"regexp/syntax"
	"slices"
	"strings"
)

// pattern is the document's grammar, once more, as one regular expression over a text and the line feed behind it.
var pattern = strings.NewReplacer("BLANKS", `[ \t]+`, "END", `[ \t]*\n`, "EMPTY", `([ \t]*\n)*`, "NAME", `[A-Za-z0-9_']{1,16}`).Replace(
	`EMPTYOps(BLANKSNAME:[01])*ENDEMPTYAutomatonBLANKSNAMEENDEMPTYStates(BLANKSNAME)*END` +
		`EMPTYFinal States(BLANKSNAME)*ENDEMPTYTransitionsEND(NAME\((NAME)?\)(BLANKS)?->(BLANKS)?NAMEEND|END)*`)

// machine is the library's program of the pattern, gone through by sets of its instructions.
type machine struct {
	prog  *syntax.Prog
	nodes map[string]*node
	all   []*node // in the order of being met; the first is the start
}

// node is a set of instructions that wait for a byte or have matched, with what the calls must answer of a text that leads there.
type node struct {
	at    []uint32
	text  string // a shortest one that leads there
	next  [256]*node
	bytes string
	file  bool
	left  int // how many bytes are missing at least
	rest  string
}

const far = 1 << 30

var model = newMachine()

func newMachine() *machine {
	parsed, err := syntax.Parse(pattern, syntax.Perl)
	if err != nil {
		panic(err)
	}
	prog, err := syntax.Compile(parsed.Simplify())
	if err != nil {
		panic(err)
	}
	m := &machine{prog: prog, nodes: map[string]*node{}}
	m.node(m.open(uint32(prog.Start), map[uint32]bool{}), "")
	for i := 0; i < len(m.all); i++ {
		m.link(m.all[i])
	}
	m.measure()
	return m
}

// node gives the node of a set; none of the empty one.
func (m *machine) node(at []uint32, text string) *node {
	if len(at) == 0 {
		return nil
	}
	slices.Sort(at)
	var key strings.Builder
	for _, i := range at {
		key.WriteRune(rune(i))
	}
	if n, ok := m.nodes[key.String()]; ok {
		return n
	}
	n := &node{at: at, text: text, left: far}
	m.nodes[key.String()] = n
	m.all = append(m.all, n)
	return n
}

// open gives the instructions that wait for a byte, or match, from one on.
func (m *machine) open(i uint32, seen map[uint32]bool) []uint32 {
	if seen[i] {
		return nil
	}
	seen[i] = true
	inst := m.prog.Inst[i]
	switch inst.Op {
	case syntax.InstAlt, syntax.InstAltMatch:
		return append(m.open(inst.Out, seen), m.open(inst.Arg, seen)...)
	case syntax.InstCapture, syntax.InstNop:
		return m.open(inst.Out, seen)
	case syntax.InstEmptyWidth, syntax.InstFail:
		return nil
	}
	return []uint32{i}
}

func (m *machine) link(n *node) {
	for b := range 128 {
		var out []uint32
		seen := map[uint32]bool{}
		for _, i := range n.at {
			inst := &m.prog.Inst[i]
			switch inst.Op {
			case syntax.InstRune, syntax.InstRune1, syntax.InstRuneAny, syntax.InstRuneAnyNotNL:
				if inst.MatchRune(rune(b)) {
					out = append(out, m.open(inst.Out, seen)...)
				}
			}
		}
		n.next[b] = m.node(out, n.text+string(rune(b)))
	}
}

func (m *machine) matched(n *node) bool {
	return n != nil && slices.ContainsFunc(n.at, func(i uint32) bool { return m.prog.Inst[i].Op == syntax.InstMatch })
}

// measure goes back from the files: the way on is the least byte to a node with the fewest bytes missing.
func (m *machine) measure() {
	for _, n := range m.all {
		if n.file = m.matched(n.next['\n']); n.file {
			n.left = 0
		}
	}
	for left := 1; left < 200; left++ {
		for _, n := range m.all {
			for b, to := range n.next {
				if n.left == far && to != nil && to.left == left-1 {
					n.left, n.rest = left, string(rune(b))+to.rest
				}
			}
		}
	}
	for _, n := range m.all {
		for b, to := range n.next {
			if to != nil && to.left < far {
				n.bytes += string(rune(b))
			}
		}
	}
}

// longest gives the length of a text's longest beginning of a file, and where that leads.
func (m *machine) longest(text string) (int, *node) {
	at := m.all[0]
	for i := range len(text) {
		next := at.next[text[i]]
		if next == nil || next.left == far {
			return i, at
		}
		at = next
	}
	return len(text), at
}
