package steam_test

import (
	"math/rand"
	"slices"
	"testing"

	"crossband/api"
	"crossband/steam"
)

// TestLoads is P3.3, P3.5 and P3.6: the examples, and yards whose loads are seen at once.
func TestLoads(t *testing.T) {
	for _, x := range []struct {
		name        string
		y           api.SteamYard
		early, late []int64
	}{
		{"A", yardA(), longs(2, 4, 7), longs(4, 7, 9)},
		{"B", yardB(), nil, nil},
		{"no logs", api.SteamYard{Load: 10, Logs: []api.Range{}}, nil, nil},
		{"one log", yard(1, 5, 9), longs(5), longs(9)},
		{"one log, any hour", yard(10, 0, 100), longs(0), longs(100)},
		{"two by themselves", yard(1, 5, 9, 5, 9), longs(5, 5), longs(9, 9)},
		{"two together", yard(2, 5, 9, 5, 9), longs(5), longs(9)},
		{"more than fit at one hour", yard(2, 5, 5, 5, 5, 5, 5), longs(5, 5), longs(5, 5)},
		{"a chain", yard(10, 0, 3, 2, 6, 5, 9, 8, 10), longs(2, 8), longs(3, 9)},
		{"a chain with no other first hour", yard(10, 0, 2, 2, 6, 5, 9, 8, 10), longs(2, 8), longs(2, 9)},
		{"one that fills up", yard(2, 0, 0, 0, 1, 1, 1), longs(0, 1), longs(0, 1)},
		{"one that does not go by itself", yard(3, 0, 10, 0, 10, 0, 10, 4, 4), longs(0, 4), longs(4, 10)},
		{"one by itself", yard(1, 0, 100, 7, 7), longs(0, 7), longs(7, 100)},
		{"the first and the last hour", yard(10, 100, 100, 0, 0), longs(0, 100), longs(0, 100)},
		{"ten at one hour", many(3, 10, 0, 0), longs(0, 0, 0, 0), longs(0, 0, 0, 0)},
		{"ten by themselves", many(1, 10, 99, 100), slices.Repeat(longs(99), 10), slices.Repeat(longs(100), 10)},
		{"touching at one hour", yard(2, 0, 5, 5, 9), longs(5), longs(5)},
		{"not touching", yard(2, 0, 4, 5, 9), longs(0, 5), longs(4, 9)},
	} {
		if got := early(t, x.y); !slices.Equal(got, x.early) {
			t.Error(x.name, got)
		}
		if got := late(t, x.y); !slices.Equal(got, x.late) {
			t.Error(x.name, got)
		}
		if n := fewest(t, x.y); n != int64(len(x.early)) {
			t.Error(x.name, n)
		}
		proved(t, x.y)
	}
}

// proved fails unless Hours are right and have the fewest loads, and Proof is a proof that there are no fewer.
func proved(t *testing.T, y api.SteamYard) {
	t.Helper()
	n, hours, windows := fewest(t, y), hoursOf(t, y), proofOf(t, y)
	if !areRight(y, hours) || int64(len(inOrder(y.Load, hours))) != n {
		t.Error("hours", hours, n)
	}
	if got, e := steam.CheckHours(y, hours); got != n || e != api.OK {
		t.Error("CheckHours", hours, got, n, e)
	}
	var sum, next int64
	for _, w := range windows {
		if w.Lo < next || w.Hi < w.Lo || w.Hi > 100 {
			t.Error("no proof", windows)
		}
		sum += needs(y, w)
		next = w.Hi + 1
	}
	if len(windows) > 10 || sum != n {
		t.Error("proof", windows, sum, n)
	}
	if got, e := steam.CheckProof(y, windows); got != n || e != api.OK {
		t.Error("CheckProof", windows, got, n, e)
	}
}

// TestProved is P3.3, P3.5 and P3.8 up to the limits: right hours with as many loads as a proof proves.
func TestProved(t *testing.T) {
	for _, y := range goodYards {
		proved(t, y)
	}
	eachLarge(t, 1000, func(_ *rand.Rand, y api.SteamYard) { proved(t, y) })
}

// TestLoadsOfAll holds P3.3 and P3.6 against a list of all right hours, and is P3.9 for all of those with the fewest loads.
func TestLoadsOfAll(t *testing.T) {
	eachSmall(t, 500, func(_ *rand.Rand, y api.SteamYard) {
		all := byHand(y)
		first, last := slices.Clone(all[0]), slices.Clone(all[0])
		for _, loads := range all {
			for i, hour := range loads {
				first[i], last[i] = min(first[i], hour), max(last[i], hour)
			}
		}
		if n := fewest(t, y); n != int64(len(first)) {
			t.Error("fewest", n, len(first))
		}
		if got := early(t, y); !slices.Equal(got, first) {
			t.Error("early", got, first)
		}
		if got := late(t, y); !slices.Equal(got, last) {
			t.Error("late", got, last)
		}
		// the early loads are some loads, all at once, and so are the late ones
		for _, loads := range [][]int64{early(t, y), late(t, y)} {
			if !slices.ContainsFunc(all, func(x []int64) bool { return slices.Equal(x, loads) }) {
				t.Error("no loads", loads)
			}
		}
		proved(t, y)
	})
}

// mostProved returns what proofs with windows from an hour on prove at most, out of all windows up to the last hour.
func mostProved(y api.SteamYard, from, last int64) int64 {
	if from > last {
		return 0
	}
	most := mostProved(y, from+1, last)
	for hi := from; hi <= last; hi++ {
		most = max(most, needs(y, to(from, hi))+mostProved(y, hi+1, last))
	}
	return most
}

// TestProofOfAll is P3.8 for all proofs, in yards with few hours: no right hours have fewer loads than one proves, and one proves the fewest.
func TestProofOfAll(t *testing.T) {
	r := rand.New(rand.NewSource(8))
	for range 200 {
		y := randomYard(r, 3, 8, 6, 4)
		if n := mostProved(y, 0, 6); n != fewest(t, y) {
			t.Fatal(y, n, fewest(t, y))
		}
	}
}

// TestNoFewer is P3.8 for any right hours and any proof.
func TestNoFewer(t *testing.T) {
	equal := 0
	eachLarge(t, 1000, func(r *rand.Rand, y api.SteamYard) {
		var hours []int64
		for _, log := range y.Logs {
			hours = append(hours, log.Lo+r.Int63n(log.Hi-log.Lo+1))
		}
		loads, e := steam.CheckHours(y, hours)
		if e != api.OK || loads < fewest(t, y) {
			t.Error(hours, loads, e)
		}
		n, e := steam.CheckProof(y, randomProof(r))
		if e != api.OK || n > fewest(t, y) || n > loads {
			t.Error(n, loads, e)
		}
		if n == fewest(t, y) {
			equal++
		}
	})
	if equal < 50 {
		t.Error("too few of a sort", equal)
	}
}

// TestEarlyAndLate is P3.6 and P3.9 up to the limits. Up to an hour there are at least as many loads as the logs need whose ranges end there or sooner; the late loads are no more at any hour, so none can be later. From an hour on it is so with the early ones.
func TestEarlyAndLate(t *testing.T) {
	eachLarge(t, 300, func(_ *rand.Rand, y api.SteamYard) {
		first, last, n := early(t, y), late(t, y), fewest(t, y)
		if int64(len(first)) != n || int64(len(last)) != n || !areEnough(y, first) || !areEnough(y, last) {
			t.Error("no loads", first, last, n)
			return
		}
		for hour := range int64(101) {
			before := fewest(t, where(y, func(log api.Range) bool { return log.Hi <= hour }))
			if countOf(last, func(x int64) bool { return x <= hour }) != before {
				t.Error("late", last, hour, before)
			}
			behind := fewest(t, where(y, func(log api.Range) bool { return log.Lo >= hour }))
			if countOf(first, func(x int64) bool { return x >= hour }) != behind {
				t.Error("early", first, hour, behind)
			}
		}
	})
}

// TestBetween is P3.9 for right hours that are reached from those of Hours, change by change, with the fewest loads.
func TestBetween(t *testing.T) {
	changed := 0
	eachLarge(t, 500, func(r *rand.Rand, y api.SteamYard) {
		first, last, hours := early(t, y), late(t, y), hoursOf(t, y)
		if len(hours) == 0 {
			return
		}
		for range 50 {
			other := slices.Clone(hours)
			// some of the logs that have one hour get another one
			from, like := hours[r.Intn(len(hours))], y.Logs[r.Intn(len(hours))]
			hour := like.Lo + r.Int63n(like.Hi-like.Lo+1)
			for i, log := range y.Logs {
				if hours[i] == from && log.Lo <= hour && hour <= log.Hi && r.Intn(4) > 0 {
					other[i] = hour
				}
			}
			loads := inOrder(y.Load, other)
			if len(loads) != len(first) {
				continue
			}
			hours = other
			for i, hour := range loads {
				if hour < first[i] || hour > last[i] {
					t.Error(hours, loads, first, last)
				}
			}
			changed++
		}
	})
	if changed < 1000 {
		t.Error("too few of a sort", changed)
	}
}
