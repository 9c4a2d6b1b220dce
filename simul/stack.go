package simul

// stack holds what waits; what came last goes first.
type stack[T any] struct{ items []T }

func (s *stack[T]) push(item T) { s.items = append(s.items, item) }

// pop gives the last item, and whether there was one.
func (s *stack[T]) pop() (T, bool) {
	var item T
	last := len(s.items) - 1
	if last < 0 {
		return item, false
	}
	item = s.items[last]
	s.items = s.items[:last]
	return item, true
}
