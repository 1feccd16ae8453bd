package boil

import "crossband/api"

// within reports whether all numbers are from lo to hi.
func within(lo, hi int, numbers ...int) bool {
	for _, n := range numbers {
		if n < lo || n > hi {
			return false
		}
	}
	return true
}

// isPanel reports whether the numbers of a panel are as described.
func isPanel(p api.BoilPanel) bool {
	return within(0, api.MaxBoilValue, p.Mix, p.Opening, p.Hour)
}

// isCause reports whether a number is a cause.
func isCause(cause int) bool { return within(0, api.MaxBoilCause, cause) }

// areCauses reports whether a list is strictly increasing, and of causes.
func areCauses(list []int) bool { return isRising(list, api.MaxBoilCause) }

// isRising reports whether a list is strictly increasing, and of numbers from 0 to last.
func isRising(list []int, last int) bool {
	next := 0
	for _, n := range list {
		if !within(next, last, n) {
			return false
		}
		next = n + 1
	}
	return true
}
