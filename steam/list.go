package steam

import "iter"

// grown returns a list with one element more. The capacity is cut off, so that two lists that grow from the same one never write into each other.
func grown[T any](list []T, x T) []T {
	return append(list[:len(list):len(list)], x)
}

// taken returns a list of its own with the same elements, and no room behind them.
func taken[T any](list []T) []T {
	own := make([]T, len(list))
	copy(own, list)
	return own
}

// most returns the greatest number that is told of an element, but not less than least.
func most[T any](least int64, elements iter.Seq[T], tell func(T) int64) int64 {
	for x := range elements {
		least = max(least, tell(x))
	}
	return least
}

// longest returns the first one, in lexicographic order, of the longest lists that begin with begun, go on with numbers below end, and are right with each number that is added; begun is right itself.
func longest(begun []int, next, end int, right func([]int) bool) []int {
	best := begun
	for n := next; len(begun)+end-n > len(best); n++ { // as long as there are enough numbers for a longer one
		with := grown(begun, n)
		if !right(with) {
			continue
		}
		if list := longest(with, n+1, end, right); len(list) > len(best) {
			best = list
		}
	}
	return best
}
