package subset

import "wordset/api"

// search meets things of which each is a state of what is made: the first one is 0, and then, from each in its turn, what follows by each symbol is the next one, unless it was met already. Things with one key are one thing. It gives them by state, and where each symbol leads from each.
func search[T any, K comparable](first T, symbols, budget int, key func(T) K, follow func(from T, sym int) T) ([]T, []int, api.Errno) {
	met := []T{first}
	number := map[K]int{key(first): 0}
	var next []int
	for from := 0; from < len(met); from++ {
		for sym := range symbols {
			to := follow(met[from], sym)
			k := key(to)
			n, known := number[k]
			if !known {
				n = len(met)
				if err := oneMore(n, budget); err != api.OK {
					return nil, nil, err
				}
				number[k] = n
				met = append(met, to)
			}
			next = append(next, n)
		}
	}
	return met, next, api.OK
}

// oneMore tells whether beside n things one more may be kept; a budget of 0 or below is none.
func oneMore(n, budget int) api.Errno {
	switch {
	case budget > 0 && n >= budget:
		return api.ErrBudget
	case n >= api.MaxStates:
		return api.ErrSize
	}
	return api.OK
}

// numbersWhere gives, rising, the numbers of those things in a list that are wanted.
func numbersWhere[T any](list []T, wanted func(T) bool) []int {
	var numbers []int
	for i, item := range list {
		if wanted(item) {
			numbers = append(numbers, i)
		}
	}
	return numbers
}
