package patch_test

import (
	"math"
	"math/rand"
	"slices"
	"testing"

	"crossband/api"
	"crossband/patch"
)

// TestCheckAlone is P4.4 for CheckAlone: the examples, each error, and which one comes first.
func TestCheckAlone(t *testing.T) {
	for _, x := range []struct {
		name  string
		s     api.PatchSheet
		knots []int
		e     api.Errno
	}{
		{"across the figure", sheetS(), indexes(1, 2), api.OK},
		{"in one row", sheetS(), indexes(0, 1), api.ErrRule},
		{"in one column", sheetS(), indexes(0, 2), api.ErrRule},
		{"the first and the last", sheetS(), indexes(0, 3), api.OK},
		{"the wrong way round", sheetS(), indexes(3, 0), api.ErrRange},
		{"one", sheetS(), indexes(2), api.OK},
		{"none", sheetS(), nil, api.OK},
		{"empty", sheetS(), indexes(), api.OK},
		{"no knots, none", sheet(4, "."), nil, api.OK},
		{"only the last two", sheetS(), indexes(1, 2, 3), api.ErrRule},
		{"the first and the last of three", sheet(4, "o..#. ..... ...#o"), indexes(0, 1), api.OK},
		{"all of ten", sheet(1, "ooooo ooooo"), indexes(0, 1, 2, 3, 4, 5, 6, 7, 8, 9), api.OK},
		{"all of ten, that share", sheet(2, "ooooo ooooo"), indexes(0, 1, 2, 3, 4, 5, 6, 7, 8, 9), api.ErrRule},
		{"too far apart", sheet(2, "o.o"), indexes(0, 1), api.OK},
		{"near enough", sheet(3, "o.o"), indexes(0, 1), api.ErrRule},
		{"in corners", sheet(3, "o. .o"), indexes(0, 1), api.OK},
		{"in corners, near enough", sheet(4, "o. .o"), indexes(0, 1), api.ErrRule},
		{"in corners, with figure", sheet(4, "o# .o"), indexes(0, 1), api.OK},
		{"twice", sheetS(), indexes(1, 1), api.ErrRange},
		{"twice after another one", sheetS(), indexes(0, 3, 3), api.ErrRange},
		{"behind the last", sheetS(), indexes(4), api.ErrRange},
		{"before the first", sheetS(), indexes(-1), api.ErrRange},
		{"before the first, then one", sheetS(), indexes(-1, 0), api.ErrRange},
		{"one of no knots", sheet(4, "."), indexes(0), api.ErrRange},
		{"two that share, then one behind the last", sheetS(), indexes(0, 1, 4), api.ErrRange},
		{"two that share, then the wrong way round", sheetS(), indexes(0, 2, 1), api.ErrRange},
		{"the greatest number", sheetS(), indexes(math.MaxInt), api.ErrRange},
		{"the least number", sheetS(), indexes(math.MinInt), api.ErrRange},
		{"all numbers", sheetS(), indexes(math.MinInt, math.MaxInt), api.ErrRange},
		{"behind the greatest number", sheetS(), indexes(0, math.MaxInt, math.MinInt), api.ErrRange},
		{"far too many", sheetS(), make([]int, 5000), api.ErrRange},
	} {
		if e := patch.CheckAlone(x.s, x.knots); e != x.e {
			t.Error(x.name, e)
		}
	}
}

// TestAloneOfAll holds P4.4 against all lists of knots, and all patches that can lie.
func TestAloneOfAll(t *testing.T) {
	sorts := map[int]int{}
	each(t, 500, func(_ *rand.Rand, s api.PatchSheet) {
		share := sharing(s)
		var best []int
		for _, list := range subsets(len(share)) {
			e := api.ErrRule
			if areAlone(share, list) {
				e = api.OK
			}
			if got := patch.CheckAlone(s, list); got != e {
				t.Error("CheckAlone", list, got, e)
			}
			if e == api.OK && len(list) > len(best) {
				best = list
			}
		}
		sorts[len(best)]++
		if got := alone(t, s); !slices.Equal(got, best) {
			t.Error("Alone", got, best)
		}
	})
	for n := range 8 {
		if sorts[n] < 5 {
			t.Error("too few of a sort", n, sorts[n])
		}
	}
}

// TestAlone is P4.4 for Alone: the examples, and sheets where it is seen at once.
func TestAlone(t *testing.T) {
	for _, x := range []struct {
		name  string
		s     api.PatchSheet
		knots []int
	}{
		{"S", sheetS(), indexes(0, 3)},
		{"with three cells", withMost(sheetS(), 3), indexes(0, 1)},
		{"with two cells", withMost(sheetS(), 2), indexes(0, 1, 2, 3)},
		{"no knots", sheet(4, "..#"), nil},
		{"one knot", sheet(4, "..o"), indexes(0)},
		{"all share", sheet(12, "o..o .... o..o"), indexes(0)},
		{"none share", sheet(9, "o#o #o# o#o"), indexes(0, 1, 2, 3, 4)},
		{"the ends", sheet(4, "ooooo"), indexes(0, 4)},
		{"more without the first", sheet(3, "o.o ... o.."), indexes(1, 2)},
		{"ten", sheet(1, "ooooo ooooo"), indexes(0, 1, 2, 3, 4, 5, 6, 7, 8, 9)},
		{"every other one", sheet(2, "ooooo ooooo"), indexes(0, 2, 4, 6, 8)},
		{"two as long", sheet(3, "ooooo ooooo"), indexes(0, 3, 6, 9)},
	} {
		if got := alone(t, x.s); !slices.Equal(got, x.knots) {
			t.Error(x.name, got)
		}
	}
}

// TestParts is P4.5: the examples, sheets where it is seen at once, and chains of all patches that can lie.
func TestParts(t *testing.T) {
	for _, x := range []struct {
		name  string
		s     api.PatchSheet
		parts [][]int
	}{
		{"S", sheetS(), lists(indexes(0, 1, 2, 3))},
		{"with three cells", withMost(sheetS(), 3), lists(indexes(0, 2), indexes(1, 3))},
		{"with two cells", withMost(sheetS(), 2), lists(indexes(0), indexes(1), indexes(2), indexes(3))},
		{"no knots", sheet(4, "..#"), nil},
		{"one knot", sheet(4, "..o"), lists(indexes(0))},
		{"a chain", sheet(2, "oooooo"), lists(indexes(0, 1, 2, 3, 4, 5))},
		{"a chain that is cut", sheet(36, "ooo#oo"), lists(indexes(0, 1, 2), indexes(3, 4))},
		{"a chain that comes back", sheet(2, "o.o o.o ooo"), lists(indexes(0, 1, 2, 3, 4, 5, 6))},
		{"one within the other one", sheet(36, "o#o #.# o#o"), lists(indexes(0), indexes(1), indexes(2), indexes(3))},
		{"one after the other", sheet(3, "o.#o. .#o#. o#.#o ..#.."), lists(indexes(0, 3), indexes(1), indexes(2), indexes(4))},
	} {
		if got := parts(t, x.s); !equalLists(got, x.parts) {
			t.Error(x.name, got)
		}
	}
	sorts := map[int]int{}
	each(t, 1000, func(_ *rand.Rand, s api.PatchSheet) {
		want := partsByHand(s)
		sorts[len(want)]++
		if got := parts(t, s); !equalLists(got, want) {
			t.Error(got, want)
		}
	})
	for n := range 8 {
		if sorts[n] < 5 {
			t.Error("too few of a sort", n, sorts[n])
		}
	}
}

// TestPartsApart is P4.10: no two knots of different parts can share, and the sheets of the parts need as many patches and cells together.
func TestPartsApart(t *testing.T) {
	several := 0
	each(t, 500, func(_ *rand.Rand, s api.PatchSheet) {
		list, knots := parts(t, s), knotsOf(s)
		in := make([]int, len(knots))
		few, cells := 0, 0
		for i, part := range list {
			only := s
			for knot := range knots {
				if slices.Contains(part, knot) {
					in[knot] = i
				} else {
					only = withCell(only, knots[knot], '.')
				}
			}
			few += fewest(t, only)
			cells += cellsFor(t, only)
		}
		if few != fewest(t, s) || cells != cellsFor(t, s) {
			t.Error(list, few, cells)
		}
		for j := range knots {
			for i := range j {
				if in[i] != in[j] && patch.CheckAlone(s, indexes(i, j)) != api.OK {
					t.Error(list, i, j)
				}
			}
		}
		if len(list) > 1 {
			several++
		}
	})
	if several < 100 {
		t.Error("too few of a sort", several)
	}
}
