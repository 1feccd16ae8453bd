package peel

import "crossband/api"

// minPlaces is the fewest places of a log: through fewer, lines could be as steep as they like.
const minPlaces = 2

// within reports whether all numbers are from lo to hi.
func within(lo, hi int64, numbers ...int64) bool {
	for _, n := range numbers {
		if n < lo || n > hi {
			return false
		}
	}
	return true
}

// checkPlaces checks the places of a log, and its lists of edges.
func checkPlaces(at []int64, lists ...[]api.Range) api.Errno {
	if len(at) < minPlaces || len(at) > api.MaxPeelPlaces {
		return api.ErrMany
	}
	for _, list := range lists {
		if len(list) != len(at) {
			return api.ErrEqual
		}
	}
	if !within(0, api.MaxPeelAt, at...) {
		return api.ErrRange
	}
	for _, list := range lists {
		if !areEdges(list) {
			return api.ErrRange
		}
	}
	if !isStrict(at) {
		return api.ErrRule
	}
	return api.OK
}

// areEdges reports whether all ranges are valid, and within the heights of edges.
func areEdges(list []api.Range) bool {
	for _, r := range list {
		if r.Lo > r.Hi || !within(-api.MaxPeelEdge, api.MaxPeelEdge, r.Lo, r.Hi) {
			return false
		}
	}
	return true
}

// isStrict reports whether a list is strictly increasing.
func isStrict(list []int64) bool {
	for i := 1; i < len(list); i++ {
		if list[i] <= list[i-1] {
			return false
		}
	}
	return true
}
