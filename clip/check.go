package clip

import "crossband/api"

// within reports whether all numbers are from lo to hi.
func within[T int | int64](lo, hi T, numbers ...T) bool {
	for _, n := range numbers {
		if n < lo || n > hi {
			return false
		}
	}
	return true
}

// isKind reports whether the numbers of a kind are as described.
func isKind(k api.ClipKind) bool {
	return within(1, api.MaxClipLength, k.Width) &&
		within(1, api.MaxClipPrice, k.Price) &&
		within(0, api.MaxClipLength, k.Most)
}

// all reports whether something holds for all elements of a list.
func all[T any](list []T, holds func(T) bool) bool {
	for _, x := range list {
		if !holds(x) {
			return false
		}
	}
	return true
}
