package patch_test

import (
	"math/rand"
	"slices"
	"testing"

	"crossband/api"
	"crossband/patch"
)

// mended checks P4.3 of a sheet: that so many patches are told to be enough, with so many cells, and that Patches returns such ones.
func mended(t *testing.T, s api.PatchSheet, few, cells int) {
	t.Helper()
	if n := fewest(t, s); n != few {
		t.Error("fewest", n, few)
	}
	if n := cellsFor(t, s); n != cells {
		t.Error("cells", n, cells)
	}
	patches := patchesFor(t, s)
	if n, e := patch.CheckPatches(s, patches); len(patches) != few || n != cells || e != api.OK {
		t.Error("patches", patches, n, e)
	}
}

// TestMend is P4.3: the examples, and sheets where it is seen at once.
func TestMend(t *testing.T) {
	for _, x := range []struct {
		name       string
		s          api.PatchSheet
		few, cells int
	}{
		{"S", sheetS(), 2, 6},
		{"T", sheetT(), 2, 6},
		{"with three cells", withMost(sheetS(), 3), 2, 6},
		{"with two cells", withMost(sheetS(), 2), 4, 4},
		{"with as many as can be", withMost(sheetS(), 36), 2, 6},
		{"one over all", sheet(12, "o..o .... o..o"), 1, 12},
		{"one cell too few", sheet(11, "o..o .... o..o"), 2, 6},
		{"no knots", sheet(5, "... ..."), 0, 0},
		{"all figure", sheet(9, "## ##"), 0, 0},
		{"one knot", sheet(36, "o"), 1, 1},
		{"one knot among figure", sheet(36, "### #o# ###"), 1, 1},
		{"each by itself among figure", sheet(9, "o#o #o# o#o"), 5, 5},
		{"each by itself, one cell", sheet(1, "ooooo ooooo"), 10, 10},
		{"pairs", sheet(2, "ooooo ooooo"), 5, 10},
		{"all by one", sheet(10, "ooooo ooooo"), 1, 10},
		{"three of four", sheet(4, "ooooo ooooo"), 3, 10},
		{"fewer patches, more cells", sheet(3, "o.o"), 1, 3},
		{"the shorter of two pairs", sheet(3, "o.o.o."), 2, 4},
		{"one knot left, not in the middle", sheet(3, "o.oo.o"), 2, 6},
		{"the pair in the middle does not do", sheet(4, "oo..oo"), 2, 4},
		{"a corner", sheet(4, "oo o#"), 2, 3},
		{"two columns", sheet(6, "o.o #.# o.o"), 2, 6},
		{"across", sheet(36, "o..... .o.... ..o... ...o.. ....o. .....o"), 1, 36},
		{"across, one cell too few", sheet(35, "o..... .o.... ..o... ...o.. ....o. .....o"), 2, 18},
		{"across, nine cells", sheet(9, "o..... .o.... ..o... ...o.. ....o. .....o"), 2, 18},
		{"across, eight cells", sheet(8, "o..... .o.... ..o... ...o.. ....o. .....o"), 3, 12},
		{"ten across", sheet(36, "o...o. .o...o ..o... #..o.o o...o. .....o"), 3, 28},
	} {
		mended(t, x.s, x.few, x.cells)
		if t.Failed() {
			t.Fatal(x.name)
		}
	}
}

// TestMendOfAll holds P4.3 against all patches that can lie, laid one after the other.
func TestMendOfAll(t *testing.T) {
	sorts := map[int]int{}
	each(t, 700, func(_ *rand.Rand, s api.PatchSheet) {
		few, cells := byHand(s)
		mended(t, s, few, cells)
		sorts[few]++
	})
	for few := range 8 {
		if sorts[few] < 5 {
			t.Error("too few of a sort", few, sorts[few])
		}
	}
}

// TestNoFewer is P4.8: patches that mend are no fewer than Fewest, which is no less than knots that are alone are many.
func TestNoFewer(t *testing.T) {
	mends, equal, more := 0, 0, 0
	each(t, 1000, func(r *rand.Rand, s api.PatchSheet) {
		few, lie, knots := fewest(t, s), lying(s), knotsOf(s)
		for _, list := range subsets(len(knots)) {
			if patch.CheckAlone(s, list) == api.OK && len(list) > few {
				t.Error("alone", list, few)
			}
		}
		if most := len(alone(t, s)); most < few {
			more++
		} else if most == few {
			equal++
		}
		for range 5 {
			patches := randomPatches(r, lie, knots)
			if _, e := patch.CheckPatches(s, patches); e == api.OK {
				mends++
				if len(patches) < few {
					t.Error("patches", patches, few)
				}
			}
		}
	})
	if mends < 1000 || equal < 100 || more < 5 {
		t.Error("too few of a sort", mends, equal, more)
	}
}

// randomPatches returns patches that can lie, each of which has a knot that none before it has.
func randomPatches(r *rand.Rand, lie []api.PatchPiece, knots []cell) []api.PatchPiece {
	var out []api.PatchPiece
	for _, i := range r.Perm(len(knots)) {
		if slices.ContainsFunc(out, func(p api.PatchPiece) bool { return has(p, knots[i]) }) {
			continue
		}
		var over []api.PatchPiece
		for _, p := range lie {
			if has(p, knots[i]) {
				over = append(over, p)
			}
		}
		out = append(out, over[r.Intn(len(over))])
	}
	return out
}

// TestOnePatch is P4.9 for patches that can lie: they have all cells of the least rectangle with all their knots, and knots can be under one patch just if that can lie.
func TestOnePatch(t *testing.T) {
	can, cannot := 0, 0
	each(t, 100, func(_ *rand.Rand, s api.PatchSheet) {
		lie, knots := lying(s), knotsOf(s)
		for _, list := range subsets(len(knots))[1:] {
			var some []cell
			for _, i := range list {
				some = append(some, knots[i])
			}
			least, under := around(some), false
			for _, p := range lie {
				if slices.ContainsFunc(some, func(c cell) bool { return !has(p, c) }) {
					continue
				}
				under = true
				if !has(p, cell{least.Top, least.Left}) || !has(p, cell{least.Top + least.Rows - 1, least.Left + least.Columns - 1}) {
					t.Error("not all cells", p, least)
				}
			}
			if under {
				can++
			} else {
				cannot++
			}
			if (patch.CheckPatch(s, least) == api.OK) != under {
				t.Error(list, least, under)
			}
		}
	})
	if can < 100 || cannot < 100 {
		t.Error("too few of a sort", can, cannot)
	}
}

// TestLeastRectangles is P4.9 for what Patches returns: each one is the least rectangle with all knots that it has.
func TestLeastRectangles(t *testing.T) {
	each(t, 1000, func(_ *rand.Rand, s api.PatchSheet) {
		knots := knotsOf(s)
		for _, p := range patchesFor(t, s) {
			var under []cell
			for _, knot := range knots {
				if has(p, knot) {
					under = append(under, knot)
				}
			}
			if len(under) == 0 || around(under) != p {
				t.Error(p, under)
			}
		}
	})
}
