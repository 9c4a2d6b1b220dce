package batch

import (
	"iter"
	"strconv"
	"strings"
)

// The words that lines begin with which ask nothing.
const (
	budgetWord = "budget"
	exprWord   = "expr"
	fileWord   = "file"
	endWord    = "end"
)

const blanks = " \t"

func trimmed(text string) string { return strings.Trim(text, blanks) }

// cut parts a text at its first blanks.
func cut(text string) (string, string) {
	at := strings.IndexAny(text, blanks)
	if at < 0 {
		return text, ""
	}
	return text[:at], strings.TrimLeft(text[at:], blanks)
}

// number reads decimal digits without leading zeros.
func number(text string, least, most int) (int, bool) {
	n, err := strconv.Atoi(text)
	if err != nil || strconv.Itoa(n) != text || n < least || n > most {
		return 0, false
	}
	return n, true
}

// pieces are what the text of a batch is made of, in order.
func pieces(b Batch) iter.Seq[string] {
	return func(yield func(string) bool) {
		if b.Budget != 0 && !yield(budgetWord+" "+strconv.Itoa(b.Budget)+"\n") {
			return
		}
		for _, it := range b.Items {
			if !yieldItem(it, yield) {
				return
			}
		}
		for _, q := range b.Questions {
			if !yield(lineOf(q) + "\n") {
				return
			}
		}
	}
}

func yieldItem(it Item, yield func(string) bool) bool {
	if it.Expr {
		return yield(exprWord+" "+it.Name+" ") && yield(it.Text) && yield("\n")
	}
	return yield(fileWord+" "+it.Name+"\n") && yield(it.Text) && yield(endWord+"\n")
}
