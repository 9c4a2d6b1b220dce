package regex_test

import (
	"regexp"
	"slices"
	"strings"
	"testing"

	"wordset/api"
	"wordset/regex"
	"wordset/testkit"
)

var (
	none, empty = testkit.Leaf(api.XNone, 0), testkit.Leaf(api.XEmpty, 0)
	a, b, c1    = sym(0), sym(1), sym(2)
	letters     = []string{"a", "b", "c1"}
)

func sym(k int) api.Expr         { return testkit.Leaf(api.XSym, k) }
func star(x api.Expr) api.Expr   { return testkit.Node(api.XStar, x) }
func cat(x, y api.Expr) api.Expr { return testkit.Node(api.XCat, x, y) }
func alt(x, y api.Expr) api.Expr { return testkit.Node(api.XAlt, x, y) }

func kind(e api.Expr) api.ExprKind { return e.Nodes[0].Kind }

// read gives the expression of a text that must be one.
func read(t *testing.T, text string) api.Expr {
	t.Helper()
	e, p := regex.Parse(text, letters)
	if p.Code != api.OK {
		t.Fatalf("P9.2: %q: %v", text, p)
	}
	return e
}

func wantExpr(t *testing.T, call string, e api.Expr, code api.Errno, want api.Expr) {
	t.Helper()
	if code != api.OK || !testkit.SameExpr(e, want) {
		t.Errorf("%s: %v, %d; it should be %v", call, e, code, want)
	}
}

func wantError(t *testing.T, call string, e api.Expr, code, want api.Errno) {
	t.Helper()
	if code != want || e.Nodes != nil {
		t.Errorf("%s: %d nodes, %d; it should be nothing, %d", call, len(e.Nodes), code, want)
	}
}

func wantProblem(t *testing.T, text string, names []string, code api.Errno, at int) {
	t.Helper()
	if e, p := regex.Parse(text, names); p != (api.Problem{Code: code, At: at}) || e.Nodes != nil {
		t.Errorf("P9.2: %.60q (%d bytes): %d nodes, %v; it should be {%d %d}", text, len(text), len(e.Nodes), p, code, at)
	}
}

// modelMayBe says from the first node down what may be.
func modelMayBe(nodes []api.ExprNode) bool {
	return len(nodes) > 0 && len(nodes) <= 2000 && nodes[0].Size == len(nodes) && modelEnd(nodes, 0) == len(nodes)
}

// modelEnd gives where that which a node stands over ends; -1: it may not be.
func modelEnd(nodes []api.ExprNode, n int) int {
	if n >= len(nodes) {
		return -1
	}
	kids := map[api.ExprKind]int{api.XNone: 0, api.XEmpty: 0, api.XSym: 0, api.XCat: 2, api.XAlt: 2, api.XStar: 1}
	count, ok := kids[nodes[n].Kind]
	if !ok || nodes[n].Sym < 0 || nodes[n].Kind != api.XSym && nodes[n].Sym != 0 {
		return -1
	}
	end := n + 1
	for range count {
		if end = modelEnd(nodes, end); end < 0 {
			return -1
		}
	}
	if nodes[n].Size != end-n {
		return -1
	}
	return end
}

var (
	pieceForm  = regexp.MustCompile(`^(?:[A-Za-z0-9_']+|[ \t]+|[~%()|*+?])`)
	nameForm   = regexp.MustCompile(`^[A-Za-z0-9_']+$`)
	reductions = strings.NewReplacer("n*", "n", "n+", "n", "n?", "n", "nn", "n", "n|n", "n", "(n)", "n")
)

// piece is a sign or a name, and where it stands.
type piece struct {
	text string
	at   int
}

// modelPieces cuts a text into signs and names; false: something is neither.
func modelPieces(text string) ([]piece, bool) {
	var list []piece
	for at := 0; at < len(text); {
		s := pieceForm.FindString(text[at:])
		if s == "" || nameForm.MatchString(s) && len(s) > 16 {
			return nil, false
		}
		if strings.Trim(s, " \t") != "" {
			list = append(list, piece{s, at})
		}
		at += len(s)
	}
	return list, true
}

// modelText tells whether a text is an expression's: whether it can be brought down to one name, however tightly the signs hold.
func modelText(text string) bool {
	list, ok := modelPieces(text)
	var short strings.Builder
	for _, p := range list {
		if nameForm.MatchString(p.text) || p.text == "~" || p.text == "%" {
			p.text = "n"
		}
		short.WriteString(p.text)
	}
	s, before := short.String(), ""
	for s != before {
		s, before = reductions.Replace(s), s
	}
	return ok && s == "n"
}

// modelBeginning tells whether some text can stand behind a text so that both are an expression's: if any can, then a name and brackets or brackets alone.
func modelBeginning(text string) bool {
	for _, name := range []string{"", "a"} {
		for brackets := range strings.Count(text, "(") + 1 {
			if modelText(text + name + strings.Repeat(")", brackets)) {
				return true
			}
		}
	}
	return false
}

// modelParse reads by cutting: at the first bar, else behind the first rep, else ahead of the last sign.
func modelParse(text string, names []string) (api.Expr, api.Problem) {
	if !modelText(text) {
		at := len(text)
		for !modelBeginning(text[:at]) {
			at--
		}
		return api.Expr{}, api.Problem{Code: api.ErrSyntax, At: at}
	}
	list, _ := modelPieces(text)
	for _, p := range list {
		if nameForm.MatchString(p.text) && !slices.Contains(names, p.text) {
			return api.Expr{}, api.Problem{Code: api.ErrUnknown, At: p.at}
		}
	}
	e := modelAlt(list, names)
	if len(e.Nodes) > 2000 {
		return api.Expr{}, api.Problem{Code: api.ErrSize}
	}
	return e, api.Problem{}
}

func modelAlt(list []piece, names []string) api.Expr {
	depth := 0
	for i, p := range list {
		switch {
		case p.text == "(":
			depth++
		case p.text == ")":
			depth--
		case p.text == "|" && depth == 0:
			return alt(modelCat(list[:i], names), modelAlt(list[i+1:], names))
		}
	}
	return modelCat(list, names)
}

func modelCat(list []piece, names []string) api.Expr {
	depth := 0
	for i, p := range list {
		switch p.text {
		case "(":
			depth++
		case ")":
			depth--
		}
		if depth == 0 && i+1 < len(list) && !strings.Contains("*+?", list[i+1].text) {
			return cat(modelRep(list[:i+1], names), modelCat(list[i+1:], names))
		}
	}
	return modelRep(list, names)
}

func modelRep(list []piece, names []string) api.Expr {
	last := list[len(list)-1].text
	if strings.Contains("*+?", last) {
		x := modelRep(list[:len(list)-1], names)
		return map[string]api.Expr{"*": star(x), "+": cat(x, star(x)), "?": alt(x, empty)}[last]
	}
	switch last {
	case ")":
		return modelAlt(list[1:len(list)-1], names)
	case "~":
		return none
	case "%":
		return empty
	}
	return sym(slices.Index(names, last))
}

// modelPrint says where brackets stand as the document does: by where a node stands.
func modelPrint(e api.Expr, names []string) string { return modelAt(e, names, 0, 1) }

// modelAt prints a kid (its number, from 1) of a node of a kind; the kind 0 is the top.
func modelAt(e api.Expr, names []string, above api.ExprKind, kid int) string {
	var text string
	bare := true
	kids := testkit.Kids(e)
	inside := func(k int) string { return modelAt(kids[k-1], names, kind(e), k) }
	switch kind(e) {
	case api.XNone:
		text = "~"
	case api.XEmpty:
		text = "%"
	case api.XSym:
		text = names[e.Nodes[0].Sym]
	case api.XStar:
		text = inside(1) + "*"
	case api.XCat:
		text = inside(1) + " " + inside(2)
		bare = above == 0 || above == api.XAlt || above == api.XCat && kid == 2
	case api.XAlt:
		text = inside(1) + " | " + inside(2)
		bare = above == 0 || above == api.XAlt && kid == 2
	}
	if !bare {
		return "(" + text + ")"
	}
	return text
}

func modelSimple(e api.Expr) api.Expr {
	var simpler [2]api.Expr
	for i, kid := range testkit.Kids(e) {
		simpler[i] = modelSimple(kid)
	}
	x, y := simpler[0], simpler[1]
	switch kind(e) {
	case api.XCat:
		switch {
		case kind(x) == api.XNone || kind(y) == api.XNone:
			return none
		case kind(x) == api.XEmpty:
			return y
		case kind(y) == api.XEmpty:
			return x
		}
		return cat(x, y)
	case api.XAlt:
		switch {
		case kind(x) == api.XNone:
			return y
		case kind(y) == api.XNone || testkit.SameExpr(x, y):
			return x
		}
		return alt(x, y)
	case api.XStar:
		switch kind(x) {
		case api.XNone, api.XEmpty:
			return empty
		case api.XStar:
			return x
		}
		return star(x)
	}
	return e
}

// modelDerive gives the derivative as it is ahead of its being made simple.
func modelDerive(e api.Expr, k int) api.Expr {
	kids := testkit.Kids(e)
	switch kind(e) {
	case api.XSym:
		if e.Nodes[0].Sym == k {
			return empty
		}
	case api.XAlt:
		return alt(modelDerive(kids[0], k), modelDerive(kids[1], k))
	case api.XCat:
		through := cat(modelDerive(kids[0], k), kids[1])
		if testkit.Means(kids[0], nil) {
			return alt(through, modelDerive(kids[1], k))
		}
		return through
	case api.XStar:
		return cat(modelDerive(kids[0], k), e)
	}
	return none
}

// drawnText draws an expression's text with brackets, blanks and unknown names.
func drawnText(d testkit.Draw, depth int) string {
	blanks := func() string { return []string{"", "", " ", "\t", "  \t"}[d(5)] }
	var s string
	for i := range 1 + d(3) {
		if i > 0 {
			s += []string{" ", "|", " \t", " | "}[d(4)]
		}
		switch pick := d(8); {
		case pick < 2 && depth > 0:
			s += "(" + blanks() + drawnText(d, depth-1) + ")"
		case pick == 2:
			s += "~"
		case pick == 3:
			s += "%"
		default:
			s += letters[d(3)]
		}
		for range d(6) / 3 {
			s += blanks() + []string{"*", "+", "?"}[d(3)]
		}
	}
	return blanks() + s + blanks()
}

// changed draws a text with some bytes put in, taken out or changed.
func changed(d testkit.Draw, s string) string {
	const bytes = " \t~%()|*+?aaz_'0-\n\x00\xc3:"
	for range d(3) {
		i := d(len(s) + 1)
		j := min(len(s), i+d(2))
		k := d(len(bytes))
		s = s[:i] + bytes[k:min(len(bytes), k+d(2))] + s[j:]
	}
	return s
}

// ask asks all calls.
func ask(e api.Expr, text string, names []string, k int, word []int) testkit.Answers {
	var x testkit.Answers
	x.Code(regex.Valid(e, k))
	x.Read(regex.Parse(text, names))
	x.Text(regex.Print(e, names))
	x.Truth(regex.Nullable(e))
	x.Expr(regex.Simple(e))
	x.Expr(regex.Derive(e, k))
	x.Truth(regex.Matches(e, word))
	return x
}
