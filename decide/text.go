package decide

import (
	"strconv"

	"wordset/api"
	"wordset/witness"
)

// line gives an outcome's text without its line feed.
func line(o api.Outcome) string {
	switch o.Code {
	case api.OK:
		return verdict(o.Found, o.Names)
	case api.ErrParse:
		return "error parse " + strconv.Itoa(o.File) + " " + strconv.Itoa(o.Offset)
	case api.ErrLimit:
		return "error limit " + strconv.Itoa(o.File)
	case api.ErrBudget:
		return "error budget"
	}
	return "error " + strconv.Itoa(int(o.Code))
}

func verdict(found api.Found, names []string) string {
	switch {
	case found.Yes:
		return "yes " + strconv.Itoa(found.Pairs)
	case found.Has:
		return "no " + strconv.Itoa(found.Side) + " " + strconv.Itoa(found.Pairs) + ": " + spelt(found.Word, names)
	}
	return "none"
}

func spelt(word []int, names []string) string {
	text, err := witness.Render(word, names)
	if err != api.OK {
		return "?"
	}
	return text
}
