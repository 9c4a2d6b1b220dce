package batch

import "testing"

// TestFoundOnce: an item's content is found when it is asked about for the first time, and not again.
func TestFoundOnce(t *testing.T) {
	items := shelf{"x": {Name: "x", Expr: true, Text: "a"}, "y": {Name: "y", Expr: true, Text: "b"}, "z": {Name: "z", Expr: true, Text: "c"}}
	d := newDesk(items, 0)
	const want = "2 states, 1 symbols, 1 edges"
	if len(d.contents) != 0 || d.answer(Question{Kind: Size, A: "x"}) != want || len(d.contents) != 1 {
		t.Errorf("of one item %d contents were found", len(d.contents))
	}
	items["x"] = Item{Name: "x", Expr: true, Text: "a a a"}
	for range 2 {
		if got := d.answer(Question{Kind: Size, A: "x"}); got != want {
			t.Errorf("it has been found again: %q", got)
		}
		if d.answer(Question{Kind: Equals, A: "y", B: "x"}); len(d.contents) != 2 {
			t.Errorf("of two items %d contents were found", len(d.contents))
		}
	}
}
