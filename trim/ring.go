package trim

// ring is a queue: what is taken leaves its place to what comes later, so there is never much more room than the most that waited at one time.
type ring[T any] struct {
	items        []T
	first, count int
}

func (r *ring[T]) put(item T) {
	if r.count == len(r.items) {
		r.widen()
	}
	r.items[(r.first+r.count)%len(r.items)] = item
	r.count++
}

// take gives what has waited longest; false: nothing waits.
func (r *ring[T]) take() (T, bool) {
	var item T
	if r.count == 0 {
		return item, false
	}
	item = r.items[r.first]
	r.first = (r.first + 1) % len(r.items)
	r.count--
	return item, true
}

func (r *ring[T]) widen() {
	items := make([]T, 2*len(r.items)+1)
	n := copy(items, r.items[r.first:])
	copy(items[n:], r.items[:r.first])
	r.items, r.first = items, 0
}
