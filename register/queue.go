package register

// queue is a list of values, of which the one that was put in first is taken out first.
type queue[T any] struct{ values []T }

func (q *queue[T]) put(value T) { q.values = append(q.values, value) }

// take takes a value out of a queue that is not empty.
func (q *queue[T]) take() T {
	value := q.values[0]
	q.values = q.values[1:]
	return value
}
