package match

import (
	"slices"

	"crossband/api"
)

// within reports whether all numbers are from lo to hi.
func within(lo, hi int, numbers ...int) bool {
	for _, n := range numbers {
		if n < lo || n > hi {
			return false
		}
	}
	return true
}

// standsTwice reports whether some sheet stands at two places. The places are right, so at the latest the first one more than there can be sheets ends the search.
func standsTwice(places []api.MatchPlace) bool {
	for i, p := range places {
		isSame := func(other api.MatchPlace) bool { return other.Sheet == p.Sheet }
		if slices.ContainsFunc(places[:i], isSame) {
			return true
		}
	}
	return false
}

// check returns the error of a row.
func (t *table) check(row []api.MatchPlace) api.Errno {
	switch {
	case len(row) == 0:
		return api.ErrMany
	case slices.ContainsFunc(row, t.isNoPlace):
		return api.ErrRange
	case standsTwice(row):
		return api.ErrHave
	case !t.matches(row):
		return api.ErrMatch
	}
	return api.OK
}

// isNoPlace reports whether a place is of a sheet that does not exist, or turned in a way that is none.
func (t *table) isNoPlace(p api.MatchPlace) bool {
	return !within(0, len(t.Sheets)-1, p.Sheet) || !within(0, 1, p.Turned)
}

// matches reports whether each place but the first one begins with the figure with which the one before it ends.
func (t *table) matches(row []api.MatchPlace) bool {
	for i := 1; i < len(row); i++ {
		if t.begin(row[i]) != t.end(row[i-1]) {
			return false
		}
	}
	return true
}
