package decide

import (
	"wordset/api"
	"wordset/format"
)

// read gives the contents of two files; or an outcome whose code tells that one is none, or above the limits.
func read(texts [2]string, l api.Limits) ([2]api.File, api.Outcome) {
	var files [2]api.File
	for i, text := range texts {
		f, problem := format.Parse(text)
		if problem.Code != api.OK {
			return [2]api.File{}, api.Outcome{Code: api.ErrParse, File: i + 1, Offset: problem.At}
		}
		files[i] = f
	}
	for i, f := range files {
		if isAbove(f, l) {
			return [2]api.File{}, api.Outcome{Code: api.ErrLimit, File: i + 1}
		}
	}
	return files, api.Outcome{}
}

func isAbove(f api.File, l api.Limits) bool {
	states, symbols, rules := format.Count(f)
	return states > within(l.States, api.FileStates) || symbols > within(l.Symbols, api.FileSymbols) || rules > within(l.Rules, api.FileRules)
}

// within brings a limit into its range.
func within(limit, most int) int { return min(max(limit, 0), most) }
