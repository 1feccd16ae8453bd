package clip_test

import (
	"math"
	"math/rand"
	"slices"
	"testing"

	"crossband/api"
	"crossband/clip"
)

// TestParted is P2.6: the examples, and ribbons where it is seen at once.
func TestParted(t *testing.T) {
	for _, x := range []struct {
		name   string
		b      api.ClipRibbon
		k      []api.ClipKind
		parted []int
	}{
		{"the example", ribbonR(), kindsK(), []int{2, 1, 1, 1, 1, 1, 0, 1, 1, 1, 2}},
		{"nothing is cut", ribbon(3), kinds(4, 9, 4), []int{2, 2, 2, 2}},
		{"all is cut", ribbon(3), kinds(1, 9, 4), []int{2, 2, 2, 2}},
		{"one sheet", ribbon(3), kinds(3, 9, 4), []int{2, 0, 0, 2}},
		{"one sheet, at two places", ribbon(3), kinds(2, 5, 0), []int{2, 1, 1, 2}},
		{"kinds that are alike", ribbon(4), kinds(2, 5, 0, 2, 5, 1), []int{2, 0, 2, 0, 2}},
		{"one sheet, or two", ribbon(4), kinds(4, 10, 0, 2, 5, 0), []int{2, 0, 1, 0, 2}},
		{"one sheet, or waste on both sides", ribbon(5, 0, 4), kinds(3, 7, 0, 5, 7, 2), []int{2, 1, 0, 0, 1, 2}},
		{"a fault between", ribbon(5, 2), kinds(2, 5, 0), []int{2, 0, 2, 2, 0, 2}},
	} {
		if got := partings(t, x.b, x.k); !slices.Equal(got, x.parted) {
			t.Error(x.name, got)
		}
		for _, place := range []int{-1, len(x.parted), math.MinInt, math.MaxInt} {
			if n, e := clip.Parted(x.b, x.k, place); n != 0 || e != api.ErrArg {
				t.Error(x.name, place, n, e)
			}
		}
	}
}

// TestPartedOfAll holds P2.6 against a list of all cuts.
func TestPartedOfAll(t *testing.T) {
	eachSmall(t, 500, func(_ *rand.Rand, b api.ClipRibbon, k []api.ClipKind) {
		_, best := bestByHand(b, k)
		for place, got := range partings(t, b, k) {
			many := 0
			for _, cuts := range best {
				if parts(k, cuts, place) {
					many++
				}
			}
			want := api.ClipMay
			switch many {
			case 0:
				want = api.ClipNever
			case len(best):
				want = api.ClipAlways
			}
			if got != want {
				t.Error(place, got, want)
			}
		}
	})
}

// TestCost is P2.7: the examples, and each fault by hand.
func TestCost(t *testing.T) {
	for _, x := range []struct {
		name  string
		b     api.ClipRibbon
		k     []api.ClipKind
		costs []int64
	}{
		{"the example", ribbonR(), kindsK(), longs(6, 4)},
		{"no faults", ribbon(10), kindsK(), nil},
		{"all the ribbon has", ribbon(3, 1), kinds(2, 5, 0), longs(5)},
		{"one unit", ribbon(3, 1), kinds(1, 5, 0), longs(5)},
		{"nothing, as another kind may have it", ribbon(5, 0, 4), kinds(3, 7, 0, 5, 7, 2), longs(0, 0)},
		{"nothing, as there are more", ribbon(2, 0, 1), kinds(2, 5, 0), longs(0, 0)},
		{"one of many", ribbon(4, 0, 1, 2, 3), kinds(2, 5, 1, 4, 1, 4), longs(4, 4, 4, 4)},
	} {
		for fault, want := range x.costs {
			if n := cost(t, x.b, x.k, fault); n != want {
				t.Error(x.name, fault, n)
			}
		}
		for _, fault := range []int{-1, len(x.costs), math.MinInt, math.MaxInt} {
			if n, e := clip.Cost(x.b, x.k, fault); n != 0 || e != api.ErrArg {
				t.Error(x.name, fault, n, e)
			}
		}
	}
	eachSmall(t, 300, func(_ *rand.Rand, b api.ClipRibbon, k []api.ClipKind) {
		with, _ := bestByHand(b, k)
		for fault := range b.Faults {
			gone, _ := bestByHand(without(b, fault), k)
			if n := cost(t, b, k, fault); n != gone-with {
				t.Error(fault, n, gone, with)
			}
		}
	})
}

// TestFaults is P2.11: a fault more is worth no more, and all gone at once are worth at least as much as any one.
func TestFaults(t *testing.T) {
	eachLarge(t, 300, func(_ *rand.Rand, b api.ClipRibbon, k []api.ClipKind) {
		n, clean := worth(t, b, k), worth(t, ribbon(b.Length), k)
		for fault := range b.Faults {
			gone := worth(t, without(b, fault), k)
			if c := cost(t, b, k, fault); c < 0 || c != gone-n || clean < gone {
				t.Error(fault, c, gone, n, clean)
			}
		}
		for unit := range b.Length {
			if slices.Contains(b.Faults, unit) {
				continue
			}
			more := slices.Sorted(slices.Values(append(slices.Clone(b.Faults), unit)))
			if worth(t, ribbon(b.Length, more...), k) > n {
				t.Error(unit)
			}
		}
	})
}

// TestParts is P2.10: where a ribbon is parted its parts are worth as much as it, elsewhere less; and the best cuts that part it are those of both parts.
func TestParts(t *testing.T) {
	eachLarge(t, 300, func(_ *rand.Rand, b api.ClipRibbon, k []api.ClipKind) {
		n, all := worth(t, b, k), count(t, b, k)
		for place, parted := range partings(t, b, k) {
			if place == 0 || place == b.Length {
				if parted != api.ClipAlways {
					t.Error(place, parted)
				}
				continue
			}
			x, y := piece(b, 0, place), piece(b, place, b.Length)
			both := worth(t, x, k) + worth(t, y, k)
			if both > n || (both == n) != (parted != api.ClipNever) {
				t.Error(place, parted, both, n)
			}
			if parted == api.ClipNever {
				continue
			}
			// There are as many as all of them just if all part it.
			some := count(t, x, k) * count(t, y, k)
			if some > all || (some == all) != (parted == api.ClipAlways) {
				t.Error(place, parted, some, all)
			}
		}
	})
}
