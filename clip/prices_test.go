package clip_test

import (
	"math"
	"math/rand"
	"slices"
	"testing"

	"crossband/api"
	"crossband/clip"
)

// TestCheckPrices is P2.5 for CheckPrices: the examples, each error, and which one comes first.
func TestCheckPrices(t *testing.T) {
	for _, x := range []struct {
		name string
		list []int64
		sum  int64
		e    api.Errno
	}{
		{"the example", longs(0, 3, 1, 0, 3, 1, 2, 4, 0, 0), 14, api.OK},
		{"ten times 3", slices.Repeat(longs(3), 10), 30, api.OK},
		{"the greatest", slices.Repeat(longs(24000), 10), 240000, api.OK},
		{"ten times 1", slices.Repeat(longs(1), 10), 0, api.ErrSum},
		{"ten times 0", make([]int64, 10), 0, api.ErrSum},
		{"a face is not covered", longs(3, 3, 3, 3, 3, 2, 2, 2, 3, 3), 0, api.ErrSum},
		{"the first sheet is not covered", longs(0, 2, 2, 0, 3, 1, 2, 4, 0, 0), 0, api.ErrSum},
		{"the last sheet is not covered", longs(0, 3, 1, 0, 3, 1, 3, 3, 0, 0), 0, api.ErrSum},
		{"below 0", longs(3, 3, 3, 3, 3, 3, 3, 3, 3, -1), 0, api.ErrRange},
		{"below 0, and does not cover", longs(0, 0, 0, 0, 0, 0, 0, 0, 0, -1), 0, api.ErrRange},
		{"too great", longs(24001, 3, 1, 0, 3, 1, 2, 4, 0, 0), 0, api.ErrRange},
		{"the greatest number", slices.Repeat(longs(math.MaxInt64), 10), 0, api.ErrRange},
		{"the least number", slices.Repeat(longs(math.MinInt64), 10), 0, api.ErrRange},
		{"two", longs(0, 0), 0, api.ErrEqual},
		{"none", nil, 0, api.ErrEqual},
		{"one more", slices.Repeat(longs(3), 11), 0, api.ErrEqual},
		{"one fewer, below 0", slices.Repeat(longs(-1), 9), 0, api.ErrEqual},
	} {
		if n, e := clip.CheckPrices(ribbonR(), kindsK(), x.list); n != x.sum || e != x.e {
			t.Error(x.name, n, e)
		}
	}
	// what cannot be cut need not be covered
	if n, e := clip.CheckPrices(ribbon(3, 1), kinds(2, 5, 0, 4, 9, 4), longs(0, 0, 0)); n != 0 || e != api.OK {
		t.Error(n, e)
	}
	if n, e := clip.CheckPrices(ribbon(24), kinds(24, 1000, 0), slices.Repeat(longs(24000), 24)); n != 576000 || e != api.OK {
		t.Error(n, e)
	}
}

// TestPrices is P2.5 for Prices, and P2.8: they are as described, and cover; their sum is what best cuts are worth.
func TestPrices(t *testing.T) {
	check := func(_ *rand.Rand, b api.ClipRibbon, k []api.ClipKind) {
		list := prices(t, b, k)
		if n, e := clip.CheckPrices(b, k, list); n != worth(t, b, k) || e != api.OK {
			t.Error(list, n, e)
		}
	}
	check(nil, ribbon(24), kinds(1, 1000, 0))
	check(nil, ribbon(24), kinds(24, 1000, 0))
	check(nil, ribbon(3, 0, 1, 2), kinds(1, 1000, 0))
	check(nil, ribbon(1), kinds(2, 1000, 0))
	eachLarge(t, 500, check)
}

// covers reports whether unit prices cover a ribbon, sheet by sheet.
func covers(b api.ClipRibbon, k []api.ClipKind, list []int64) bool {
	for from := range b.Length {
		for kind := range k {
			s := api.ClipSheet{From: from, Kind: kind}
			if fits(b, k, s) && sum(list[from:from+k[kind].Width]) < k[kind].Price {
				return false
			}
		}
	}
	return true
}

func sum(list []int64) int64 {
	var out int64
	for _, n := range list {
		out += n
	}
	return out
}

// TestProved is P2.8 for any unit prices: those that cover prove their sum, and no cuts are worth more.
func TestProved(t *testing.T) {
	proved, failed := 0, 0
	eachSmall(t, 300, func(r *rand.Rand, b api.ClipRibbon, k []api.ClipKind) {
		for range 10 {
			list := prices(t, b, k)
			for range 1 + r.Intn(3) {
				unit := r.Intn(b.Length)
				list[unit] = max(0, list[unit]+r.Int63n(9)-4)
			}
			n, e := clip.CheckPrices(b, k, list)
			if !covers(b, k, list) {
				failed++
				if n != 0 || e != api.ErrSum {
					t.Error(list, n, e)
				}
				continue
			}
			proved++
			if n != sum(list) || e != api.OK {
				t.Error(list, n, e)
			}
			for _, cuts := range allCuts(b, k, nil) {
				if worthOf(k, cuts) > n {
					t.Error(list, n, cuts)
				}
			}
		}
	})
	if proved < 100 || failed < 100 {
		t.Error("too few of a sort", proved, failed)
	}
}

// TestTight is P2.9 for all best cuts: their sheets have their Prices together, and their waste has 0.
func TestTight(t *testing.T) {
	eachSmall(t, 300, func(_ *rand.Rand, b api.ClipRibbon, k []api.ClipKind) {
		list := prices(t, b, k)
		_, best := bestByHand(b, k)
		for _, cuts := range best {
			waste := slices.Clone(list)
			for _, s := range cuts {
				units := waste[s.From : s.From+k[s.Kind].Width]
				if sum(units) != k[s.Kind].Price {
					t.Error(list, cuts, s)
				}
				clear(units)
			}
			if sum(waste) != 0 {
				t.Error(list, cuts, waste)
			}
		}
	})
}
