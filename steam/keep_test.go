package steam_test

import (
	"math"
	"math/rand"
	"slices"
	"testing"

	"crossband/api"
	"crossband/steam"
)

// TestKeep is P3.7: the examples, yards where it is seen at once, and the error.
func TestKeep(t *testing.T) {
	for _, x := range []struct {
		name  string
		y     api.SteamYard
		loads int64
		logs  []int
		e     api.Errno
	}{
		{"two loads", yardA(), 2, indexes(0, 1, 2, 3), api.OK},
		{"one load", yardA(), 1, indexes(0, 1), api.OK},
		{"the fewest", yardA(), 3, indexes(0, 1, 2, 3, 4), api.OK},
		{"no load", yardA(), 0, nil, api.OK},
		{"more than are needed", yardA(), 10, indexes(0, 1, 2, 3, 4), api.OK},
		{"no logs, no load", yardB(), 0, nil, api.OK},
		{"no logs", yardB(), 10, nil, api.OK},
		{"more without the first one", yard(3, 9, 9, 0, 4, 2, 5, 4, 6), 1, indexes(1, 2, 3), api.OK},
		{"the first ones", yard(1, 0, 1, 0, 1, 0, 1), 2, indexes(0, 1), api.OK},
		{"the last ones", yard(2, 0, 0, 5, 5, 5, 5), 1, indexes(1, 2), api.OK},
		{"the first, not the second", yard(2, 3, 3, 9, 9, 3, 3), 1, indexes(0, 2), api.OK},
		{"the first of two as long", yard(2, 3, 3, 9, 9, 9, 9, 3, 3), 1, indexes(0, 3), api.OK},
		{"ten", many(1, 10, 0, 100), 10, indexes(0, 1, 2, 3, 4, 5, 6, 7, 8, 9), api.OK},
		{"nine of ten", many(1, 10, 0, 100), 9, indexes(0, 1, 2, 3, 4, 5, 6, 7, 8), api.OK},
		{"below 0", yardA(), -1, nil, api.ErrRange},
		{"above the limit", yardA(), 11, nil, api.ErrRange},
		{"no logs, below 0", yardB(), -1, nil, api.ErrRange},
		{"no logs, above the limit", yardB(), 11, nil, api.ErrRange},
		{"the least number", yardA(), math.MinInt64, nil, api.ErrRange},
		{"the greatest number", yardA(), math.MaxInt64, nil, api.ErrRange},
	} {
		if got, e := steam.Keep(x.y, x.loads); !slices.Equal(got, x.logs) || e != x.e {
			t.Error(x.name, got, e)
		}
	}
}

// keptByHand returns the first one of the longest lists of logs for which so many loads are enough.
func keptByHand(lists [][]int, enough func([]int) bool) []int {
	var best []int
	for _, logs := range lists {
		if len(logs) > len(best) && enough(logs) {
			best = logs
		}
	}
	return best
}

// TestKeepOfAll holds P3.7 against all lists of logs, with the loads of all right hours of each.
func TestKeepOfAll(t *testing.T) {
	eachSmall(t, 200, func(_ *rand.Rand, y api.SteamYard) {
		for loads := range int64(4) {
			want := keptByHand(subsets(len(y.Logs)), func(logs []int) bool {
				return int64(len(byHand(part(y, logs))[0])) <= loads
			})
			if got := keep(t, y, loads); !slices.Equal(got, want) {
				t.Error(loads, got, want)
			}
		}
	})
}

// TestKeepOfTen holds P3.7 against all lists of up to ten logs, and what Fewest tells of each.
func TestKeepOfTen(t *testing.T) {
	r := rand.New(rand.NewSource(10))
	for range 15 {
		y := randomYard(r, 3, 10, 20, 8)
		for loads := range int64(5) {
			want := keptByHand(subsets(len(y.Logs)), func(logs []int) bool { return fewest(t, part(y, logs)) <= loads })
			if got := keep(t, y, loads); !slices.Equal(got, want) {
				t.Fatal(y, loads, got, want)
			}
		}
	}
}

// TestKept is P3.12.
func TestKept(t *testing.T) {
	eachLarge(t, 200, func(_ *rand.Rand, y api.SteamYard) {
		n, before := fewest(t, y), 0
		for loads := range int64(11) {
			logs := keep(t, y, loads)
			for i, log := range logs {
				if log < 0 || log >= len(y.Logs) || i > 0 && log <= logs[i-1] {
					t.Fatal("no list of logs", y, loads, logs)
				}
			}
			if got := fewest(t, part(y, logs)); got > loads {
				t.Error("too many", loads, logs, got)
			}
			if len(logs) < before {
				t.Error("fewer than before", loads, logs, before)
			}
			if (len(logs) == len(y.Logs)) != (loads >= n) {
				t.Error("all", loads, logs, n)
			}
			before = len(logs)
		}
	})
}
