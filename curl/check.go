package curl

import "crossband/api"

// minSheets is how many sheets a panel has at least.
const minSheets = 3

// within reports whether all numbers are from lo to hi.
func within[N int | int64](lo, hi N, numbers ...N) bool {
	for _, n := range numbers {
		if n < lo || n > hi {
			return false
		}
	}
	return true
}

// every reports whether something holds for all elements of a list.
func every[T any](list []T, holds func(T) bool) bool {
	for _, x := range list {
		if !holds(x) {
			return false
		}
	}
	return true
}

// isSheet reports whether a sheet is valid.
func isSheet(s api.CurlSheet) bool {
	return within(0, api.MaxCurlPull, s.Pull) && within(-api.MaxCurlMore, api.MaxCurlMore, s.More)
}

// isDamp reports whether a range of damp is valid, and from 0 to the greatest damp.
func isDamp(r api.Range) bool {
	return r.Lo <= r.Hi && within(0, api.MaxCurlDamp, r.Lo, r.Hi)
}
