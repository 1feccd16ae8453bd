package grade

import "iter"

// grown returns a list with one element more. The capacity is cut off, so that two lists that grow from the same one never write into each other.
func grown[T any](list []T, x T) []T {
	return append(list[:len(list):len(list)], x)
}

// taken returns a list of its own with the same elements, and no room behind them.
func taken[T any](list []T) []T {
	own := make([]T, len(list))
	copy(own, list)
	return own
}

// pick returns the first of several that no other one is better than, or the zero value if there are none. The better one of two compares as less.
func pick[T any](several iter.Seq[T], compare func(a, b T) int) T {
	var best T
	found := false
	for x := range several {
		if !found || compare(x, best) < 0 {
			best, found = x, true
		}
	}
	return best
}

// shortest returns the first one, in lexicographic order, of the shortest strictly increasing lists of numbers from 0 to end-1 that are enough, or none if no list is.
func shortest(end int, enough func([]int) bool) []int {
	// Each list is followed, behind all others that are as long, by those that have one number more.
	lists := [][]int{nil}
	for i := 0; i < len(lists); i++ {
		list, next := lists[i], 0
		if enough(list) {
			return list
		}
		if len(list) > 0 {
			next = list[len(list)-1] + 1
		}
		for n := next; n < end; n++ {
			lists = grown(lists, grown(list, n))
		}
	}
	return nil
}
