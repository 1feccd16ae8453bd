package patch_test

import (
	"math/rand"
	"testing"

	"crossband/api"
	"crossband/patch"
)

// TestLargest is P4.6: the examples, sheets where it is seen at once, and all patches that can lie.
func TestLargest(t *testing.T) {
	for _, x := range []struct {
		name string
		s    api.PatchSheet
		p    api.PatchPiece
		e    api.Errno
	}{
		{"S", sheetS(), piece(0, 0, 1, 4), api.OK},
		{"with as many cells as can be", withMost(sheetS(), 36), piece(0, 2, 3, 2), api.OK},
		{"with one cell", withMost(sheetS(), 1), piece(0, 0, 1, 1), api.OK},
		{"with five cells", withMost(sheetS(), 5), piece(0, 0, 1, 4), api.OK},
		{"all of it", sheet(36, "...... ...... ...... ...... ...... ......"), piece(0, 0, 6, 6), api.OK},
		{"all of it but for a row", sheet(35, "...... ...... ...... ...... ...... ......"), piece(0, 0, 5, 6), api.OK},
		{"the first of fewer rows", sheet(4, ".... .... .... ...."), piece(0, 0, 1, 4), api.OK},
		{"the upper one", sheet(2, "#. #. .."), piece(0, 1, 2, 1), api.OK},
		{"the left one", sheet(2, "..#.."), piece(0, 0, 1, 2), api.OK},
		{"only the last cell", sheet(36, "### ### ##."), piece(2, 2, 1, 1), api.OK},
		{"only a knot", sheet(36, "### #o# ###"), piece(1, 1, 1, 1), api.OK},
		{"all figure", sheet(9, "## ##"), api.PatchPiece{}, api.ErrNone},
		{"one cell of figure", sheet(1, "#"), api.PatchPiece{}, api.ErrNone},
		{"figure up to the limits", sheet(36, "###### ###### ###### ###### ###### ######"), api.PatchPiece{}, api.ErrNone},
	} {
		if p, e := patch.Largest(x.s); p != x.p || e != x.e {
			t.Error(x.name, p, e)
		}
	}
	each(t, 1000, func(_ *rand.Rand, s api.PatchSheet) {
		want, e := api.PatchPiece{}, api.ErrNone
		for _, p := range lying(s) {
			if p.Rows*p.Columns > want.Rows*want.Columns {
				want, e = p, api.OK
			}
		}
		if p, f := patch.Largest(s); p != want || f != e {
			t.Error(p, f, want)
		}
	})
}

// TestNoLarger is P4.13: no patch that can lie is larger than the largest one, and one patch is enough just if the least rectangle of all knots can lie.
func TestNoLarger(t *testing.T) {
	one, more := 0, 0
	each(t, 1000, func(_ *rand.Rand, s api.PatchSheet) {
		most := largestCells(t, s)
		for _, p := range lying(s) {
			if patch.CheckPatch(s, p) != api.OK || p.Rows*p.Columns > most {
				t.Error(p, most)
			}
		}
		knots := knotsOf(s)
		if len(knots) == 0 {
			return
		}
		can := patch.CheckPatch(s, around(knots)) == api.OK
		if few := fewest(t, s); (few == 1) != can {
			t.Error(few, can)
		}
		if can {
			one++
		} else {
			more++
		}
	})
	if one < 50 || more < 50 {
		t.Error("too few of a sort", one, more)
	}
}
