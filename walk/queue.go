package walk

// queue holds anything, and gives the first of it by any order.
type queue[T any] struct {
	heap  []T // none is ahead of the one that stands at half its place
	ahead func(a, b T) bool
}

func (q *queue[T]) count() int { return len(q.heap) }

func (q *queue[T]) push(item T) {
	q.heap = append(q.heap, item)
	at := len(q.heap) - 1
rise:
	for at > 0 {
		up := (at - 1) / 2
		if !q.ahead(q.heap[at], q.heap[up]) {
			break rise
		}
		q.heap[at], q.heap[up] = q.heap[up], q.heap[at]
		at = up
	}
}

// pop takes the first one off; there must be one.
func (q *queue[T]) pop() T {
	top := q.heap[0]
	last := len(q.heap) - 1
	q.heap[0] = q.heap[last]
	q.heap = q.heap[:last]
	at := 0
sink:
	for {
		down := q.higher(at)
		if down == at {
			break sink
		}
		q.heap[at], q.heap[down] = q.heap[down], q.heap[at]
		at = down
	}
	return top
}

// higher tells which is first: the one at this place or one of the two below it.
func (q *queue[T]) higher(at int) int {
	best := at
	for _, down := range [2]int{2*at + 1, 2*at + 2} {
		if down < len(q.heap) && q.ahead(q.heap[down], q.heap[best]) {
			best = down
		}
	}
	return best
}
