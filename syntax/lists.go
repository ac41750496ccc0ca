package syntax

// list tells which list one is, by where its things lie: lists that are handed in may stand in themselves, or in many places.
type list[T any] struct {
	first *T
	long  int
}

// listOf is of a list that is not empty.
func listOf[T any](l []T) list[T] { return list[T]{&l[0], len(l)} }

type marks[K comparable] map[K]struct{}

// add tells whether the key was not there yet.
func (m marks[K]) add(k K) bool {
	before := len(m)
	m[k] = struct{}{}
	return len(m) > before
}
