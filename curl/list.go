package curl

import "iter"

// grown returns a list with one element more. The capacity is cut off, so that what grows from a list never writes into another one.
func grown[T any](list []T, x T) []T {
	return append(list[:len(list):len(list)], x)
}

// taken returns a list of its own with the same elements, and no room behind them.
func taken[T any](list []T) []T {
	own := make([]T, len(list))
	copy(own, list)
	return own
}

// pick returns the first of several that no other one is better than, and whether there is one.
func pick[T any](all iter.Seq[T], better func(a, b T) bool) (T, bool) {
	var best T
	found := false
	for x := range all {
		if !found || better(x, best) {
			best, found = x, true
		}
	}
	return best, found
}
