package match

import "iter"

// grown returns a list with one element more. The capacity is cut off, so that two lists that grow from the same one never write into each other.
func grown[T any](list []T, x T) []T {
	return append(list[:len(list):len(list)], x)
}

// taken returns a list of its own with the same elements, and no room behind them.
func taken[T any](list []T) []T {
	own := make([]T, len(list))
	copy(own, list)
	return own
}

// those returns the elements of a list that are asked for, in a list of their own.
func those[T any](list []T, isOne func(T) bool) []T {
	var out []T
	for _, x := range list {
		if isOne(x) {
			out = grown(out, x)
		}
	}
	return taken(out)
}

// pick returns the first of several that no other one is better than, or the zero value if there are none. The better one of two compares as less.
func pick[T any](several iter.Seq[T], compare func(a, b T) int) T {
	var best T
	found := false
	for x := range several {
		if !found || compare(x, best) < 0 {
			best, found = x, true
		}
	}
	return best
}
