package steam_test

import (
	"math"
	"math/rand"
	"slices"
	"testing"

	"crossband/api"
	"crossband/steam"
)

// badYards are yards that are not valid, with their errors; of several errors the one named first (R1).
var badYards = []struct {
	name string
	y    api.SteamYard
	e    api.Errno
}{
	{"nothing", api.SteamYard{}, api.ErrRange},
	{"no room", yard(0, 2, 5), api.ErrRange},
	{"room below 0", yard(-1), api.ErrRange},
	{"too much room", yard(11, 2, 5), api.ErrRange},
	{"the least room", yard(math.MinInt64, 2, 5), api.ErrRange},
	{"the greatest room", yard(math.MaxInt64, 2, 5), api.ErrRange},
	{"no room, too many logs", many(0, 11, 2, 5), api.ErrRange},
	{"too much room, too many logs", many(11, 11, 2, 5), api.ErrRange},
	{"too many logs", many(1, 11, 2, 5), api.ErrMany},
	{"far too many logs", many(10, 1000, 2, 5), api.ErrMany},
	{"too many logs that are backwards", many(10, 11, 5, 2), api.ErrMany},
	{"backwards", yard(1, 5, 4), api.ErrRange},
	{"before the first hour", yard(1, -1, 4), api.ErrRange},
	{"behind the last hour", yard(1, 4, 101), api.ErrRange},
	{"wholly before the first hour", yard(1, -3, -1), api.ErrRange},
	{"wholly behind the last hour", yard(1, 101, 101), api.ErrRange},
	{"the last log backwards", yard(10, 0, 0, 5, 9, 3, 2), api.ErrRange},
	{"the last of ten", api.SteamYard{Load: 10, Logs: append(slices.Repeat(ranges(0, 100), 9), to(0, 101))}, api.ErrRange},
	{"all numbers", yard(1, math.MinInt64, math.MaxInt64), api.ErrRange},
	{"all numbers, backwards", yard(1, math.MaxInt64, math.MinInt64), api.ErrRange},
}

var goodYards = []api.SteamYard{
	yardA(),
	yardB(),
	yard(10),
	{Load: 5, Logs: []api.Range{}},
	yard(1, 0, 0),
	yard(10, 100, 100),
	yard(3, 0, 100, 7, 7),
	many(1, 10, 0, 100),
	many(10, 10, 0, 100),
	many(3, 10, 50, 50),
	yard(2, 0, 0, 100, 100, 0, 100, 50, 60, 55, 70, 60, 65, 0, 50, 61, 61, 61, 61, 61, 61),
}

// TestCheckYard is P3.1.
func TestCheckYard(t *testing.T) {
	for _, y := range goodYards {
		if e := steam.CheckYard(y); e != api.OK {
			t.Error(y, e)
		}
	}
	for _, x := range badYards {
		if e := steam.CheckYard(x.y); e != x.e {
			t.Error(x.name, e)
		}
	}
}

// TestErrorsFirst: all functions return the error of CheckYard before their own ones, and zero values with it (R2).
func TestErrorsFirst(t *testing.T) {
	for _, x := range badYards {
		numbers := map[string]func() (int64, api.Errno){
			"CheckHours": func() (int64, api.Errno) { return steam.CheckHours(x.y, make([]int64, 2000)) },
			"Fewest":     func() (int64, api.Errno) { return steam.Fewest(x.y) },
			"Need":       func() (int64, api.Errno) { return steam.Need(x.y, to(0, 101)) },
			"CheckProof": func() (int64, api.Errno) { return steam.CheckProof(x.y, slices.Repeat(ranges(0, 101), 11)) },
		}
		for call, f := range numbers {
			if n, e := f(); n != 0 || e != x.e {
				t.Error(call, x.name, n, e)
			}
		}
		for call, f := range map[string]func(api.SteamYard) ([]int64, api.Errno){"Hours": steam.Hours, "Early": steam.Early, "Late": steam.Late} {
			if list, e := f(x.y); len(list) != 0 || e != x.e {
				t.Error(call, x.name, list, e)
			}
		}
		if list, e := steam.Proof(x.y); len(list) != 0 || e != x.e {
			t.Error("Proof", x.name, list, e)
		}
		for _, loads := range longs(-1, 11, 1) {
			if list, e := steam.Keep(x.y, loads); len(list) != 0 || e != x.e {
				t.Error("Keep", x.name, list, e)
			}
		}
	}
}

// TestCheckHours is P3.2: the examples, each error, and which one comes first.
func TestCheckHours(t *testing.T) {
	for _, x := range []struct {
		name  string
		y     api.SteamYard
		hours []int64
		loads int64
		e     api.Errno
	}{
		{"the fewest", yardA(), longs(2, 4, 4, 7, 7), 3, api.OK},
		{"others", yardA(), longs(5, 4, 4, 7, 7), 3, api.OK},
		{"one load more", yardA(), longs(2, 4, 4, 6, 7), 4, api.OK},
		{"all by themselves", yardA(), longs(2, 3, 4, 6, 7), 5, api.OK},
		{"two loads at one hour", yardA(), longs(4, 4, 4, 7, 7), 3, api.OK},
		{"three at the last hours", yardA(), longs(5, 4, 8, 9, 7), 5, api.OK},
		{"no logs", yardB(), nil, 0, api.OK},
		{"no logs, empty", yardB(), longs(), 0, api.OK},
		{"loads that are full", many(5, 10, 3, 3), slices.Repeat(longs(3), 10), 2, api.OK},
		{"one more than fit", many(3, 10, 3, 3), slices.Repeat(longs(3), 10), 4, api.OK},
		{"all in one", many(10, 10, 0, 0), make([]int64, 10), 1, api.OK},
		{"each by itself", many(1, 10, 100, 100), slices.Repeat(longs(100), 10), 10, api.OK},
		{"the first and the last hour", yard(10, 0, 100, 0, 100), longs(0, 100), 2, api.OK},
		{"too few", yardA(), longs(2, 4, 4, 7), 0, api.ErrEqual},
		{"too many", yardA(), longs(2, 4, 4, 7, 7, 7), 0, api.ErrEqual},
		{"none", yardA(), nil, 0, api.ErrEqual},
		{"one for no logs", yardB(), longs(0), 0, api.ErrEqual},
		{"too few, not right", yardA(), longs(1, 4, 4, 7), 0, api.ErrEqual},
		{"too many, not right", yardA(), longs(1, 4, 4, 7, 8, 9), 0, api.ErrEqual},
		{"the last too late", yardA(), longs(2, 4, 4, 7, 8), 0, api.ErrSteam},
		{"the last too early", yardA(), longs(2, 4, 4, 7, 6), 0, api.ErrSteam},
		{"the first too early", yardA(), longs(1, 4, 4, 7, 7), 0, api.ErrSteam},
		{"the first too late", yardA(), longs(6, 4, 4, 7, 7), 0, api.ErrSteam},
		{"one between", yardA(), longs(2, 4, 9, 7, 7), 0, api.ErrSteam},
		{"below all hours", yard(1, 0, 100), longs(-1), 0, api.ErrSteam},
		{"above all hours", yard(1, 0, 100), longs(101), 0, api.ErrSteam},
		{"the least number", yard(1, 0, 100), longs(math.MinInt64), 0, api.ErrSteam},
		{"the greatest number", yard(1, 0, 100), longs(math.MaxInt64), 0, api.ErrSteam},
	} {
		if n, e := steam.CheckHours(x.y, x.hours); n != x.loads || e != x.e {
			t.Error(x.name, n, e)
		}
	}
	eachLarge(t, 500, func(r *rand.Rand, y api.SteamYard) {
		var hours []int64
		for _, log := range y.Logs {
			hours = append(hours, log.Lo+r.Int63n(log.Hi-log.Lo+1))
		}
		if n, e := steam.CheckHours(y, hours); n != int64(len(inOrder(y.Load, hours))) || e != api.OK {
			t.Error(hours, n, e)
		}
		for i, log := range y.Logs {
			for _, wrong := range longs(log.Lo-1, log.Hi+1) {
				other := slices.Clone(hours)
				other[i] = wrong
				if n, e := steam.CheckHours(y, other); n != 0 || e != api.ErrSteam {
					t.Error(other, n, e)
				}
			}
		}
	})
}

// TestNeed is P3.4.
func TestNeed(t *testing.T) {
	for _, x := range []struct {
		y api.SteamYard
		w api.Range
		n int64
		e api.Errno
	}{
		{yardA(), to(2, 9), 3, api.OK},
		{yardA(), to(0, 100), 3, api.OK},
		{yardA(), to(6, 9), 1, api.OK},
		{yardA(), to(5, 5), 0, api.OK},
		{yardA(), to(3, 8), 2, api.OK},
		{yardA(), to(3, 7), 1, api.OK},
		{yardA(), to(2, 4), 1, api.OK},
		{yardA(), to(7, 7), 1, api.OK},
		{yardB(), to(0, 100), 0, api.OK},
		{many(3, 10, 0, 0), to(0, 0), 4, api.OK},
		{many(5, 10, 100, 100), to(100, 100), 2, api.OK},
		{many(1, 10, 0, 100), to(0, 100), 10, api.OK},
		{many(1, 10, 0, 100), to(0, 99), 0, api.OK},
		{many(1, 10, 0, 100), to(1, 100), 0, api.OK},
		{yardA(), to(9, 2), 0, api.ErrRange},
		{yardA(), to(-1, 2), 0, api.ErrRange},
		{yardA(), to(2, 101), 0, api.ErrRange},
		{yardA(), to(101, 101), 0, api.ErrRange},
		{yardA(), to(-1, -1), 0, api.ErrRange},
		{yardB(), to(1, 0), 0, api.ErrRange},
		{yardA(), to(math.MinInt64, math.MaxInt64), 0, api.ErrRange},
		{yardA(), to(math.MaxInt64, math.MinInt64), 0, api.ErrRange},
	} {
		if n, e := steam.Need(x.y, x.w); n != x.n || e != x.e {
			t.Error(x.y, x.w, n, e)
		}
	}
	eachLarge(t, 500, func(r *rand.Rand, y api.SteamYard) {
		for range 20 {
			w := randomLog(r, 100, 101)
			if n, e := steam.Need(y, w); n != needs(y, w) || e != api.OK {
				t.Error(w, n, e)
			}
		}
	})
}

// TestCheckProof is P3.5 for CheckProof: the examples, each error, and which one comes first.
func TestCheckProof(t *testing.T) {
	for _, x := range []struct {
		name    string
		y       api.SteamYard
		windows []api.Range
		n       int64
		e       api.Errno
	}{
		{"one window", yardA(), ranges(2, 9), 3, api.OK},
		{"one behind the other", yardA(), ranges(2, 5, 6, 9), 2, api.OK},
		{"some that need nothing", yardA(), ranges(0, 1, 3, 4, 7, 7, 8, 100), 2, api.OK},
		{"nothing", yardA(), nil, 0, api.OK},
		{"empty", yardA(), ranges(), 0, api.OK},
		{"no logs", yardB(), ranges(0, 100), 0, api.OK},
		{"rounded up by themselves", yard(2, 0, 0, 1, 1, 2, 2), ranges(0, 0, 1, 1, 2, 2), 3, api.OK},
		{"rounded up together", yard(2, 0, 0, 1, 1, 2, 2), ranges(0, 2), 2, api.OK},
		{"ten of them", yard(1, 0, 0, 9, 9), ranges(0, 0, 1, 1, 2, 2, 3, 3, 4, 4, 5, 5, 6, 6, 7, 7, 8, 8, 9, 9), 2, api.OK},
		{"at the end of the one before it", yardA(), ranges(2, 5, 5, 9), 0, api.ErrRule},
		{"backwards", yardA(), ranges(6, 9, 2, 5), 0, api.ErrRule},
		{"twice", yardA(), ranges(7, 7, 7, 7), 0, api.ErrRule},
		{"within the one before it", yardA(), ranges(0, 100, 7, 7), 0, api.ErrRule},
		{"before the one before it, that need nothing", yardB(), ranges(1, 1, 0, 0), 0, api.ErrRule},
		{"only the last one", yardA(), ranges(2, 5, 6, 9, 9, 10), 0, api.ErrRule},
		{"the first hour twice", yardA(), ranges(0, 0, 0, 0), 0, api.ErrRule},
		{"a window that is none", yardA(), ranges(9, 2), 0, api.ErrRange},
		{"before the first hour", yardA(), ranges(-1, 2), 0, api.ErrRange},
		{"behind the last hour", yardA(), ranges(2, 101), 0, api.ErrRange},
		{"the last one is none", yardA(), ranges(2, 5, 6, 9, 10, 9), 0, api.ErrRange},
		{"too soon, and then none", yardA(), ranges(2, 5, 5, 9, 10, 101), 0, api.ErrRange},
		{"all numbers", yardA(), ranges(math.MinInt64, math.MaxInt64), 0, api.ErrRange},
		{"behind the greatest number", yardA(), ranges(0, math.MaxInt64, math.MinInt64, 0), 0, api.ErrRange},
		{"eleven", yardA(), slices.Repeat(ranges(0, 0), 11), 0, api.ErrMany},
		{"eleven, though fit", yardA(), ranges(0, 0, 1, 1, 2, 2, 3, 3, 4, 4, 5, 5, 6, 6, 7, 7, 8, 8, 9, 9, 10, 10), 0, api.ErrMany},
		{"eleven that are none", yardA(), slices.Repeat(ranges(9, 2), 11), 0, api.ErrMany},
		{"ten, too soon", yardA(), slices.Repeat(ranges(0, 0), 10), 0, api.ErrRule},
	} {
		if n, e := steam.CheckProof(x.y, x.windows); n != x.n || e != x.e {
			t.Error(x.name, n, e)
		}
	}
}

// TestCheckProofOfAny holds CheckProof against what the windows need.
func TestCheckProofOfAny(t *testing.T) {
	eachLarge(t, 500, func(r *rand.Rand, y api.SteamYard) {
		windows := randomProof(r)
		var want int64
		for _, w := range windows {
			want += needs(y, w)
		}
		if n, e := steam.CheckProof(y, windows); n != want || e != api.OK {
			t.Error(windows, n, want, e)
		}
	})
}

// randomProof returns windows, each of which begins behind the end of the one before it.
func randomProof(r *rand.Rand) []api.Range {
	var out []api.Range
	next, wide := int64(0), []int64{3, 12, 40}[r.Intn(3)]
	for range r.Intn(11) {
		lo := next + max(0, r.Int63n(4)-2)
		hi := lo + r.Int63n(wide)
		if hi > 100 {
			break
		}
		out = append(out, to(lo, hi))
		next = hi + 1
	}
	return out
}
