package witness

// counted gives a query's number: the last two bits of every number, below 0 too, are its remainder from 0 to 3.
func counted(query int) int { return query & 3 }

// shown tells whether a word shows the no of a query, by which of both take it.
func shown(query int, first, second bool) bool {
	must := [...]func(first, second bool) bool{
		func(first, _ bool) bool { return first },
		func(first, _ bool) bool { return !first },
		func(first, second bool) bool { return first && !second },
		func(first, second bool) bool { return first != second },
	}
	return must[counted(query)](first, second)
}

// sideOf tells the side of a word that shows the no.
func sideOf(query int, first bool) int {
	switch {
	case !asksSecond(query):
		return 0
	case first:
		return 1
	}
	return 2
}

// asksSecond tells whether it makes a difference to the query what the second automaton takes.
func asksSecond(query int) bool { return counted(query) >= 2 }
