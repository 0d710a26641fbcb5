package many

import "cmp"

// actions are what merge does with each element: with one of the first list alone, with one of both, with one of the second list alone.
type actions[T any] struct {
	first, both, second func(T)
}

// merge goes through two increasing lists at once and does with each of their elements, from the least one on, what do says.
func merge[T cmp.Ordered](a, b []T, do actions[T]) {
	for len(a) > 0 && len(b) > 0 {
		switch order := cmp.Compare(a[0], b[0]); {
		case order < 0:
			do.first(a[0])
			a = a[1:]
		case order > 0:
			do.second(b[0])
			b = b[1:]
		default:
			do.both(a[0])
			a, b = a[1:], b[1:]
		}
	}
	for _, element := range a {
		do.first(element)
	}
	for _, element := range b {
		do.second(element)
	}
}
