package clip_test

import (
	"math/rand"
	"slices"
	"testing"

	"crossband/api"
	"crossband/clip"
)

// TestBest is P2.3 and P2.4: the examples, and ribbons whose best cuts are seen at once.
func TestBest(t *testing.T) {
	for _, x := range []struct {
		name  string
		b     api.ClipRibbon
		k     []api.ClipKind
		worth int64
		cuts  []api.ClipSheet
		count int64
	}{
		{"the example", ribbonR(), kindsK(), 14, sheets(0, 1, 2, 2, 5, 1, 7, 2), 3},
		{"the example without its first fault", ribbon(10, 8), kindsK(), 20, sheets(0, 0, 4, 0), 1},
		{"too short", ribbon(3), kinds(4, 9, 4), 0, nil, 1},
		{"nothing but faults", ribbon(2, 0, 1), kinds(1, 5, 0, 2, 5, 1), 0, nil, 1},
		{"one unit", ribbon(1), kinds(1, 5, 0), 5, sheets(0, 0), 1},
		{"both sides of a fault", ribbon(3, 1), kinds(1, 5, 0), 10, sheets(0, 0, 2, 0), 1},
		{"the sheet that begins first", ribbon(3), kinds(2, 5, 0), 5, sheets(0, 0), 2},
		{"the lesser kind", ribbon(2), kinds(2, 5, 0, 2, 5, 1, 2, 4, 2), 5, sheets(0, 0), 2},
		{"begins first, though of a greater kind", ribbon(3, 0), kinds(2, 5, 0, 2, 5, 1), 5, sheets(0, 1), 3},
		{"one wide, two narrow ones later in the list", ribbon(4), kinds(4, 10, 0, 2, 5, 0), 10, sheets(0, 0), 2},
		{"two narrow, one wide later in the list", ribbon(4), kinds(2, 5, 0, 4, 10, 0), 10, sheets(0, 0, 2, 0), 2},
		{"the dearest first is not best", ribbon(6), kinds(4, 6, 0, 3, 5, 0), 10, sheets(0, 1, 3, 1), 1},
		{"waste before what is best", ribbon(5, 0), kinds(4, 9, 0, 5, 8, 1), 9, sheets(1, 0), 1},
		{"the greatest worth", ribbon(24), kinds(1, 1000, 0), 24000, cutUp(24), 1},
	} {
		if n := worth(t, x.b, x.k); n != x.worth {
			t.Error(x.name, n)
		}
		if cuts := cutsOf(t, x.b, x.k); !slices.Equal(cuts, x.cuts) {
			t.Error(x.name, cuts)
		}
		if n := count(t, x.b, x.k); n != x.count {
			t.Error(x.name, n)
		}
	}
}

// cutUp returns cuts of so many units into sheets of the kind 0, each of one.
func cutUp(units int) []api.ClipSheet {
	var out []api.ClipSheet
	for unit := range units {
		out = append(out, api.ClipSheet{From: unit})
	}
	return out
}

// TestBestOfAll holds P2.3 and P2.4 against a list of all cuts.
func TestBestOfAll(t *testing.T) {
	eachSmall(t, 500, func(_ *rand.Rand, b api.ClipRibbon, k []api.ClipKind) {
		most, best := bestByHand(b, k)
		if n := worth(t, b, k); n != most {
			t.Error("worth", n, most)
		}
		if cuts := cutsOf(t, b, k); !slices.Equal(cuts, best[0]) {
			t.Error("cuts", cuts, best[0])
		}
		if n := count(t, b, k); n != int64(len(best)) {
			t.Error("count", n, len(best))
		}
	})
}

// TestCutsAreWorthIt: Cuts are cuts, and are worth what Worth tells, up to the limits.
func TestCutsAreWorthIt(t *testing.T) {
	eachLarge(t, 500, func(_ *rand.Rand, b api.ClipRibbon, k []api.ClipKind) {
		if n, e := clip.CheckCuts(b, k, cutsOf(t, b, k)); n != worth(t, b, k) || e != api.OK {
			t.Error(n, e)
		}
	})
}

// TestCountMany is P2.4 where there are most: six kinds that are alike, on each of 24 units.
func TestCountMany(t *testing.T) {
	alike := slices.Repeat(kinds(1, 1, 0), 6)
	want := int64(1)
	for units := 1; units <= 24; units++ {
		want *= 6
		if n := count(t, ribbon(units), alike); n != want {
			t.Error(units, n, want)
		}
	}
	// as many as one and two are added up to 24
	fibonacci := [2]int64{1, 1}
	for units := 1; units <= 24; units++ {
		if n := count(t, ribbon(units), kinds(1, 5, 0, 2, 10, 0)); n != fibonacci[1] {
			t.Error(units, n, fibonacci)
		}
		fibonacci = [2]int64{fibonacci[1], fibonacci[0] + fibonacci[1]}
	}
}
