package witness

import (
	"iter"

	"wordset/api"
	"wordset/names"
)

// emptyWord is how the word without symbols is written; it is no name.
const emptyWord = "()"

// tableOf gives the numbers of names by their places, if all of them are names, each once.
func tableOf(list []string) (*names.Table, api.Errno) {
	table, _ := names.New(len(list))
	for _, name := range list {
		if _, err := table.Add(name); err != api.OK {
			return nil, err
		}
	}
	// Asked behind the loop: a text that is no name goes ahead of one that stands twice, wherever it stands.
	if table.Count() < len(list) {
		return nil, api.ErrTwice
	}
	return table, api.OK
}

func isBlank(c byte) bool { return c == ' ' || c == '\t' }

// namesIn goes through what stands between the blanks of a text, each with the offset of its first byte.
func namesIn(text string) iter.Seq2[int, string] {
	return func(yield func(int, string) bool) {
		at := 0
	words:
		for {
			for ; ; at++ {
				if at == len(text) {
					break words
				}
				if !isBlank(text[at]) {
					break
				}
			}
			begin := at
			for at < len(text) && !isBlank(text[at]) {
				at++
			}
			if !yield(begin, text[begin:at]) {
				break words
			}
		}
	}
}
