package grammar

// place is a place in the grammar: what may stand behind a text hangs on it and on how much of a name or a word has been read there.
type place uint8

// A Line is a line's beginning; an Empty has read blanks from there; an End stands behind a line's word, where a name needs blanks ahead of it, and a Gap behind such blanks.
const (
	nowhere place = iota
	opsLine
	opsEmpty
	opsEnd
	opsGap
	opName
	opArity
	automatonLine
	automatonEmpty
	automatonEnd
	automatonGap
	automatonName
	statesLine
	statesEmpty
	statesEnd
	statesGap
	stateName
	finalLine
	finalEmpty
	finalEnd
	finalGap
	finalName
	transitionsLine
	transitionsEmpty
	ruleLine
	ruleEmpty
	ruleOp
	ruleOpen
	ruleFrom
	ruleClosed
	ruleArrow
	ruleTo
)

// row tells what leads on from a place; what is left out leads nowhere.
type row struct {
	blank place  // where a blank leads
	feed  place  // where a line feed leads
	name  place  // where a byte of a name leads
	signs string // any one of these bytes leads past
	word  string // these bytes, one behind the other, lead past
	past  place
}

// rows is the grammar. (A line's end that has begun with a blank is the same as an empty line ahead of the next one.)
var rows = [...]row{
	opsLine:  {blank: opsEmpty, feed: opsLine, word: "Ops", past: opsEnd},
	opsEmpty: {blank: opsEmpty, feed: opsLine},
	opsEnd:   {blank: opsGap, feed: automatonLine},
	opsGap:   {blank: opsGap, feed: automatonLine, name: opName},
	opName:   {name: opName, signs: ":", past: opArity},
	opArity:  {signs: "01", past: opsEnd},

	automatonLine:  {blank: automatonEmpty, feed: automatonLine, word: "Automaton", past: automatonEnd},
	automatonEmpty: {blank: automatonEmpty, feed: automatonLine},
	automatonEnd:   {blank: automatonGap},
	automatonGap:   {blank: automatonGap, name: automatonName},
	automatonName:  {blank: statesEmpty, feed: statesLine, name: automatonName},

	statesLine:  {blank: statesEmpty, feed: statesLine, word: "States", past: statesEnd},
	statesEmpty: {blank: statesEmpty, feed: statesLine},
	statesEnd:   {blank: statesGap, feed: finalLine},
	statesGap:   {blank: statesGap, feed: finalLine, name: stateName},
	stateName:   {blank: statesGap, feed: finalLine, name: stateName},

	finalLine:  {blank: finalEmpty, feed: finalLine, word: "Final States", past: finalEnd},
	finalEmpty: {blank: finalEmpty, feed: finalLine},
	finalEnd:   {blank: finalGap, feed: transitionsLine},
	finalGap:   {blank: finalGap, feed: transitionsLine, name: finalName},
	finalName:  {blank: finalGap, feed: transitionsLine, name: finalName},

	transitionsLine:  {blank: transitionsEmpty, feed: transitionsLine, word: "Transitions", past: ruleEmpty},
	transitionsEmpty: {blank: transitionsEmpty, feed: transitionsLine},

	ruleLine:   {blank: ruleEmpty, feed: ruleLine, name: ruleOp},
	ruleEmpty:  {blank: ruleEmpty, feed: ruleLine},
	ruleOp:     {name: ruleOp, signs: "(", past: ruleOpen},
	ruleOpen:   {name: ruleFrom, signs: ")", past: ruleClosed},
	ruleFrom:   {name: ruleFrom, signs: ")", past: ruleClosed},
	ruleClosed: {blank: ruleClosed, word: "->", past: ruleArrow},
	ruleArrow:  {blank: ruleArrow, name: ruleTo},
	ruleTo:     {blank: ruleEmpty, feed: ruleLine, name: ruleTo},
}
