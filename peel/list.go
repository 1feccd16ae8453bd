package peel

import "iter"

// grown returns a list with one element more. The capacity is cut off, so that two lists that grow from the same one never write into each other.
func grown[T any](list []T, x T) []T {
	return append(list[:len(list):len(list)], x)
}

// taken returns a list of its own with the same elements.
func taken[T any](list []T) []T {
	own := make([]T, len(list))
	copy(own, list)
	return own
}

// pick returns the first of all elements that no other one is better than; there is at least one.
func pick[T any](all iter.Seq[T], better func(a, b T) bool) T {
	var best T
	found := false
	for x := range all {
		if !found || better(x, best) {
			best, found = x, true
		}
	}
	return best
}
