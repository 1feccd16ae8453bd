package press

import "crossband/api"

// within reports whether all numbers are from lo to hi.
func within[N int | int64](lo, hi N, numbers ...N) bool {
	for _, n := range numbers {
		if n < lo || n > hi {
			return false
		}
	}
	return true
}

// areIndexes reports whether a list is strictly increasing, and names only elements of a list of so many.
func areIndexes(list []int, many int) bool {
	next := 0
	for _, n := range list {
		if !within(next, many-1, n) {
			return false
		}
		next = n + 1
	}
	return true
}

// isPanel reports whether a panel is valid.
func isPanel(p api.PressPanel) bool {
	return within(0, api.MaxPressHeat, p.Heat) && within(1, api.MaxPressHours, p.Hours)
}
