package clip

import "iter"

// grown returns a list with one element more. The capacity is cut off, so that what grows from a list never writes into it.
func grown[T any](list []T, x T) []T {
	return append(list[:len(list):len(list)], x)
}

// taken returns a list of its own with the same elements, and no room behind them.
func taken[T any](list []T) []T {
	own := make([]T, len(list))
	copy(own, list)
	return own
}

// most returns the greatest number that is told of an element, but not less than least.
func most[T any, N int | int64](least N, elements iter.Seq[T], tell func(T) N) N {
	for x := range elements {
		least = max(least, tell(x))
	}
	return least
}

// sums returns a function that adds up the numbers of the units between two places.
func sums(units []int64) func(from, to int) int64 {
	return func(from, to int) int64 {
		var sum int64
		for _, n := range units[from:to] {
			sum += n
		}
		return sum
	}
}
