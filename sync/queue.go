package sync

import (
	"iter"
	"slices"
)

// queue is what came and was not taken yet, in the order of coming.
type queue[T comparable] struct{ rest []T }

func (q *queue[T]) put(x T) { q.rest = append(q.rest, x) }

// take takes the first one off; false, if there is none.
func (q *queue[T]) take() (T, bool) {
	for x := range q.off() {
		return x, true
	}
	var none T
	return none, false
}

// off goes over what there is, and takes each off ahead of telling it.
func (q *queue[T]) off() iter.Seq[T] {
	return func(yield func(T) bool) {
		for len(q.rest) > 0 {
			x := q.rest[0]
			// What is behind moves up: a rest that is cut from the front would keep what was taken.
			q.rest = slices.Delete(q.rest, 0, 1)
			if !yield(x) {
				return
			}
		}
	}
}

// all tells what there is in a list that is not the queue's.
func (q *queue[T]) all() []T { return append([]T(nil), q.rest...) }

// part gives a queue that was copied memory of its own.
func (q *queue[T]) part() { q.rest = q.all() }

func (q *queue[T]) same(other queue[T]) bool { return slices.Equal(q.rest, other.rest) }
