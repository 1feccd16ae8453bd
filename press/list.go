package press

// grown returns a list with one element more. The capacity is cut off, so that what grows from a list never writes into it.
func grown[T any](list []T, x T) []T {
	return append(list[:len(list):len(list)], x)
}

// taken returns a list of its own with the same elements, and no room behind them.
func taken[T any](list []T) []T {
	own := make([]T, len(list))
	copy(own, list)
	return own
}

// pick returns the first element of a list that no other one is better than, or the zero value if there are none. The better one of two compares as less.
func pick[T any](list []T, compare func(a, b T) int) T {
	var best T
	for i, x := range list {
		if i == 0 || compare(x, best) < 0 {
			best = x
		}
	}
	return best
}
