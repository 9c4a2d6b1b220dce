package format

import (
	"slices"
	"testing"

	"wordset/names"
)

// TestCut: the pieces, and that no more are cut once the loop has been left.
func TestCut(t *testing.T) {
	for _, c := range []struct {
		text   string
		pieces []string
	}{
		{"", nil}, {" \t:", nil}, {"a", []string{"a"}}, {" b_'(q)->Z9 ", []string{"b_'", "q", "Z9"}},
	} {
		if got := slices.Collect(cut(c.text, names.Valid)); !slices.Equal(got, c.pieces) {
			t.Errorf("cut(%q): %q, want %q", c.text, got, c.pieces)
		}
	}
	var got []string
	for piece := range cut("a b c d", names.Valid) {
		got = append(got, piece)
		if piece == "b" {
			break
		}
	}
	if !slices.Equal(got, []string{"a", "b"}) {
		t.Errorf("a loop that is left at b went through %q", got)
	}
}
