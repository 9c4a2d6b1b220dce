package decide

import (
	"errors"
	"strconv"

	"wordset/antichain"
	"wordset/api"
	"wordset/congr"
)

// engine answers a question, or tells in a refusal why it does not. The side of a word is not asked of it: the word itself tells that.
type engine interface {
	answer(q question) (api.Found, error)
}

// chosen gives the engines that a number asks for, in the order in which they are asked.
func chosen(number int, o api.Options, budget int) []engine {
	first, second := antichains{simul: o.Simul, budget: budget}, congruence{options: o, budget: budget}
	switch number {
	case 1:
		return []engine{first}
	case 2:
		return []engine{second}
	}
	return []engine{first, second}
}

// antichains is the first engine.
type antichains struct {
	simul  bool
	budget int
}

func (x antichains) answer(q question) (api.Found, error) {
	there, err := x.includes(q.first, q.second)
	if err != nil || !q.both {
		return there, err
	}
	back, err := x.includes(q.second, q.first)
	if err != nil {
		return api.Found{}, err
	}
	return joined(there, back), nil
}

func (x antichains) includes(a, b api.Auto) (api.Found, error) {
	found, code := antichain.Includes(a, b, x.simul, x.budget)
	return found, refused(code)
}

// joined is yes if both are; else it has the shorter word, the first one's where they are of one length.
func joined(there, back api.Found) api.Found {
	found := there
	if back.Has && (there.Yes || len(back.Word) < len(there.Word)) {
		found = back
	}
	found.Pairs = there.Pairs + back.Pairs
	return found
}

// congruence is the second engine.
type congruence struct {
	options api.Options
	budget  int
}

func (x congruence) answer(q question) (api.Found, error) {
	search := congr.Include
	if q.both {
		search = congr.Equal
	}
	found, code := search(q.first, q.second, x.options, x.budget)
	return found, refused(code)
}

// refusal wraps the number of what kept an engine from an answer.
type refusal struct{ code api.Errno }

func (r refusal) Error() string { return "refused with the number " + strconv.Itoa(int(r.code)) }

// refused gives no error where nothing was refused.
func refused(code api.Errno) error {
	if code == api.OK {
		return nil
	}
	return refusal{code}
}

// codeOf tells the number that an error wraps; OK of none.
func codeOf(err error) api.Errno {
	var r refusal
	if errors.As(err, &r) {
		return r.code
	}
	return api.OK
}
