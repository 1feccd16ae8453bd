package steam

import "crossband/api"

// within reports whether all numbers are from lo to hi.
func within(lo, hi int64, numbers ...int64) bool {
	for _, n := range numbers {
		if n < lo || n > hi {
			return false
		}
	}
	return true
}

// isWindow reports whether a range is valid, and from 0 to the last hour.
func isWindow(r api.Range) bool {
	return r.Lo <= r.Hi && within(0, api.MaxSteamHours, r.Lo, r.Hi)
}

// areWindows reports whether all ranges are valid, and from 0 to the last hour.
func areWindows(list []api.Range) bool {
	for _, r := range list {
		if !isWindow(r) {
			return false
		}
	}
	return true
}
