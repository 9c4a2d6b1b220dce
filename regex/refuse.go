package regex

import (
	"wordset/api"
	"wordset/names"
)

// refusal is what a call gives up with: from however deep inside, no answer has to be handed back by hand.
type refusal api.Problem

// tried gives what a call makes, or, where it has given up, nothing but the problem.
func tried[T any](call func() T) (made T, wrong api.Problem) {
	defer func() {
		if given := recover(); given != nil {
			wrong = api.Problem(given.(refusal))
		}
	}()
	return call(), api.Problem{}
}

func refuse(code api.Errno, at int) { panic(refusal{Code: code, At: at}) }

func demand(holds bool, code api.Errno) {
	if !holds {
		refuse(code, 0)
	}
}

// numbersOf gives the symbols' numbers by their names; it gives up if the names may not be.
func numbersOf(list []string) *names.Table {
	numbers, _ := names.New(api.MaxSymbols)
	for i, name := range list {
		n, err := numbers.Add(name)
		// A name that the table has already is answered with the number that it has there.
		demand(err == api.OK && n == i, api.ErrArg)
	}
	return numbers
}
