package patch_test

import (
	"math"
	"math/rand"
	"slices"
	"strings"
	"testing"

	"crossband/api"
	"crossband/patch"
)

// badSheets are sheets that are not valid, with their errors; of several errors the one named first (R1).
var badSheets = []struct {
	name string
	s    api.PatchSheet
	e    api.Errno
}{
	{"nothing", api.PatchSheet{}, api.ErrMany},
	{"no rows", api.PatchSheet{Rows: []string{}, Most: 4}, api.ErrMany},
	{"seven rows", sheet(4, ". . . . . . ."), api.ErrMany},
	{"far too many rows", api.PatchSheet{Rows: slices.Repeat([]string{"."}, 5000), Most: 4}, api.ErrMany},
	{"an empty row", api.PatchSheet{Rows: []string{""}, Most: 4}, api.ErrMany},
	{"empty rows", api.PatchSheet{Rows: []string{"", "", ""}, Most: 4}, api.ErrMany},
	{"seven columns", sheet(4, "......."), api.ErrMany},
	{"far too many columns", sheet(4, strings.Repeat("o", 5000)), api.ErrMany},
	{"seven columns, then others", sheet(4, "....... x"), api.ErrMany},
	{"no cells", sheet(0, "o..o .#.. o..o"), api.ErrMany},
	{"cells below 0", sheet(-1, "o..o .#.. o..o"), api.ErrMany},
	{"one cell too many", sheet(37, "o..o .#.. o..o"), api.ErrMany},
	{"the least number of cells", sheet(math.MinInt, "."), api.ErrMany},
	{"the greatest number of cells", sheet(math.MaxInt, "."), api.ErrMany},
	{"no cells, unequal rows, no such cells", sheet(0, "o. x"), api.ErrMany},
	{"too many cells, too many knots", sheet(37, "oooooo ooooo."), api.ErrMany},
	{"too many rows of no such cells", sheet(4, "x x x x x x x"), api.ErrMany},
	{"a short row", sheet(4, "... .."), api.ErrEqual},
	{"a long row", sheet(4, "... ...."), api.ErrEqual},
	{"a far too long row", sheet(4, "... "+strings.Repeat(".", 5000)), api.ErrEqual},
	{"a last row that is empty", api.PatchSheet{Rows: []string{"...", ""}, Most: 4}, api.ErrEqual},
	{"a short one of six", sheet(4, "...... ...... ...... ..... ...... ......"), api.ErrEqual},
	{"no such cells before a short row", sheet(4, "xxx ... .."), api.ErrEqual},
	{"too many knots before a short row", sheet(4, "oooooo oooooo ....."), api.ErrEqual},
	{"a great letter", sheet(4, "O"), api.ErrForm},
	{"a digit", sheet(4, "0"), api.ErrForm},
	{"a blank", api.PatchSheet{Rows: []string{". ."}, Most: 4}, api.ErrForm},
	{"a byte 0", api.PatchSheet{Rows: []string{"\x00"}, Most: 4}, api.ErrForm},
	{"a byte 255", api.PatchSheet{Rows: []string{"..\xff"}, Most: 4}, api.ErrForm},
	{"a letter of two bytes", sheet(4, "é .."), api.ErrForm},
	{"a byte beside a cell", sheet(4, "./ .."), api.ErrForm},
	{"the last of all cells", sheet(4, "...... ...... ...... ...... ...... .....x"), api.ErrForm},
	{"no such cell, too many knots", sheet(4, "oooooo oooooo .....x"), api.ErrForm},
	{"eleven knots", sheet(4, "oooooo ooooo."), api.ErrOver},
	{"eleven knots apart", sheet(1, "o.o.o. .o.o.o o.o.o. .o.o.. ...... ......"), api.ErrOver},
	{"all knots", sheet(36, "oooooo oooooo oooooo oooooo oooooo oooooo"), api.ErrOver},
}

var goodSheets = []api.PatchSheet{
	sheetS(),
	sheetT(),
	sheet(1, "."),
	sheet(36, "#"),
	sheet(1, "o"),
	sheet(9, "## ##"),
	sheet(5, "... ..."),
	sheet(36, "......"),
	sheet(1, ". . . . . ."),
	sheet(36, "oooooo oooo.. ...... ...... ...... ######"),
	sheet(36, "o....o .o..o. ..oo.. ..oo.. .o.... o....."),
	sheet(36, "...... ...... ...... ...... ...... ......"),
	sheet(2, "ooooo ooooo"),
	sheet(4, "ooooo ooooo"),
	sheet(1, "ooooo ooooo"),
	sheet(6, "o.o #.# o.o"),
	sheet(3, "o.o.o. ...... o.o.o."),
	sheet(9, "o#o #o# o#o"),
	sheet(4, "o.o.o .#.#. o.o.o"),
}

// TestCheckSheet is P4.1.
func TestCheckSheet(t *testing.T) {
	for _, s := range goodSheets {
		if e := patch.CheckSheet(s); e != api.OK {
			t.Error(s, e)
		}
	}
	for _, x := range badSheets {
		if e := patch.CheckSheet(x.s); e != x.e {
			t.Error(x.name, e)
		}
	}
	for most := 1; most <= api.MaxPatchCells; most++ {
		if e := patch.CheckSheet(sheet(most, "o")); e != api.OK {
			t.Error(most, e)
		}
	}
	for b := range 256 {
		want := api.ErrForm
		if b == '.' || b == 'o' || b == '#' {
			want = api.OK
		}
		for _, row := range []string{string([]byte{byte(b)}), string([]byte{'.', byte(b), 'o'})} {
			if e := patch.CheckSheet(api.PatchSheet{Rows: []string{row}, Most: 4}); e != want {
				t.Error(b, e)
			}
		}
	}
}

// TestErrorsFirst: all functions return the error of CheckSheet before their own ones, and zero values with it (R2).
func TestErrorsFirst(t *testing.T) {
	for _, x := range badSheets {
		for _, p := range pieces(0, 0, 1, 1, -1, 0, 1, 1, 0, 0, 9, 9) {
			if e := patch.CheckPatch(x.s, p); e != x.e {
				t.Error("CheckPatch", x.name, e)
			}
		}
		for _, many := range indexes(0, 1, 11, 2000) {
			if n, e := patch.CheckPatches(x.s, make([]api.PatchPiece, many)); n != 0 || e != x.e {
				t.Error("CheckPatches", x.name, n, e)
			}
			if e := patch.CheckAlone(x.s, make([]int, many)); e != x.e {
				t.Error("CheckAlone", x.name, e)
			}
		}
		for call, f := range map[string]func(api.PatchSheet) (int, api.Errno){"Fewest": patch.Fewest, "Cells": patch.Cells} {
			if n, e := f(x.s); n != 0 || e != x.e {
				t.Error(call, x.name, n, e)
			}
		}
		if list, e := patch.Patches(x.s); len(list) != 0 || e != x.e {
			t.Error("Patches", x.name, list, e)
		}
		if list, e := patch.Alone(x.s); len(list) != 0 || e != x.e {
			t.Error("Alone", x.name, list, e)
		}
		if list, e := patch.Parts(x.s); len(list) != 0 || e != x.e {
			t.Error("Parts", x.name, list, e)
		}
		if p, e := patch.Largest(x.s); p != (api.PatchPiece{}) || e != x.e {
			t.Error("Largest", x.name, p, e)
		}
		for times := -1; times <= 4; times++ {
			if s, e := patch.Turn(x.s, times); len(s.Rows) != 0 || s.Most != 0 || e != x.e {
				t.Error("Turn", x.name, s, e)
			}
		}
		sameErrors(t, x.name, x.s, x.e)
	}
}

// sameErrors checks that Same returns the error of its first sheet, and then that of the second one.
func sameErrors(t *testing.T, name string, bad api.PatchSheet, e api.Errno) {
	t.Helper()
	for _, x := range badSheets {
		if n, f := patch.Same(bad, x.s); n != 0 || f != e {
			t.Error("Same", name, x.name, n, f)
		}
	}
	for _, s := range goodSheets {
		if n, f := patch.Same(bad, s); n != 0 || f != e {
			t.Error("Same", name, s, n, f)
		}
		if n, f := patch.Same(s, bad); n != 0 || f != e {
			t.Error("Same", s, name, n, f)
		}
	}
}

// TestCheckPatch is P4.2 for CheckPatch: the examples, each error, and which one comes first.
func TestCheckPatch(t *testing.T) {
	for _, x := range []struct {
		name string
		s    api.PatchSheet
		p    api.PatchPiece
		e    api.Errno
	}{
		{"the first row", sheetS(), piece(0, 0, 1, 4), api.OK},
		{"over the figure", sheetS(), piece(0, 0, 2, 2), api.ErrPatch},
		{"beside the figure", sheetS(), piece(1, 2, 2, 2), api.OK},
		{"no rows", sheetS(), piece(0, 0, 0, 1), api.ErrRange},
		{"beyond the right", sheetS(), piece(0, 1, 1, 4), api.ErrRange},
		{"too many cells", sheetS(), piece(0, 2, 3, 2), api.ErrOver},
		{"one clear cell", sheetS(), piece(0, 1, 1, 1), api.OK},
		{"the figure", sheetS(), piece(1, 1, 1, 1), api.ErrPatch},
		{"figure at the right", sheetS(), piece(1, 0, 2, 2), api.ErrPatch},
		{"the last column", sheetS(), piece(0, 3, 3, 1), api.OK},
		{"no columns", sheetS(), piece(0, 0, 1, 0), api.ErrRange},
		{"rows below 0", sheetS(), piece(2, 0, -1, 1), api.ErrRange},
		{"columns below 0", sheetS(), piece(0, 2, 1, -1), api.ErrRange},
		{"both below 0", sheetS(), piece(2, 2, -1, -1), api.ErrRange},
		{"above the top", sheetS(), piece(-1, 0, 1, 1), api.ErrRange},
		{"from above the top", sheetS(), piece(-1, 0, 2, 1), api.ErrRange},
		{"left of the sheet", sheetS(), piece(0, -1, 1, 1), api.ErrRange},
		{"from left of the sheet", sheetS(), piece(0, -1, 1, 2), api.ErrRange},
		{"below the bottom", sheetS(), piece(3, 0, 1, 1), api.ErrRange},
		{"beyond the bottom", sheetS(), piece(2, 0, 2, 1), api.ErrRange},
		{"right of the sheet", sheetS(), piece(0, 4, 1, 1), api.ErrRange},
		{"as wide as it is high", sheet(4, "... ..."), piece(0, 0, 3, 1), api.ErrRange},
		{"as high as it is wide", sheet(4, ".. .. .."), piece(0, 0, 1, 3), api.ErrRange},
		{"beyond the sheet, over the figure, too many cells", sheetS(), piece(0, 0, 4, 4), api.ErrRange},
		{"over the figure, too many cells", sheetS(), piece(0, 0, 3, 4), api.ErrPatch},
		{"all cells", sheet(36, "...... ...... ...... ...... ...... ......"), piece(0, 0, 6, 6), api.OK},
		{"all cells but for one", sheet(35, "...... ...... ...... ...... ...... ......"), piece(0, 0, 6, 6), api.ErrOver},
		{"figure in the last corner", sheet(36, "...... ...... ...... ...... ...... .....#"), piece(0, 0, 6, 6), api.ErrPatch},
		{"figure in the first corner", sheet(36, "#..... ...... ...... ...... ...... ......"), piece(0, 0, 6, 6), api.ErrPatch},
		{"above the last corner", sheet(36, "...... ...... ...... ...... ...... .....#"), piece(0, 0, 5, 6), api.OK},
		{"the greatest numbers", sheetS(), piece(math.MaxInt, math.MaxInt, math.MaxInt, math.MaxInt), api.ErrRange},
		{"the least numbers", sheetS(), piece(math.MinInt, math.MinInt, math.MinInt, math.MinInt), api.ErrRange},
		{"the greatest number of rows", sheetS(), piece(1, 0, math.MaxInt, 1), api.ErrRange},
		{"the greatest number of columns", sheetS(), piece(0, 1, 1, math.MaxInt), api.ErrRange},
		{"numbers whose sum is too great", sheetS(), piece(1<<62, 0, 1<<62, 1), api.ErrRange},
		{"numbers whose product is 0", sheet(4, "."), piece(0, 0, 1<<32, 1<<32), api.ErrRange},
		{"from the least number on", sheetS(), piece(math.MinInt, 0, math.MaxInt, 1), api.ErrRange},
	} {
		if e := patch.CheckPatch(x.s, x.p); e != x.e {
			t.Error(x.name, e)
		}
	}
}

// TestCheckPatchOfAll holds CheckPatch against each cell of all rectangles, some of which are not within the sheet.
func TestCheckPatchOfAll(t *testing.T) {
	each(t, 100, func(_ *rand.Rand, s api.PatchSheet) {
		lie := lying(s)
		figure := cellsOf(s, '#')
		for top := -1; top <= len(s.Rows); top++ {
			for left := -1; left <= len(s.Rows[0]); left++ {
				for rows := -1; rows <= 7; rows++ {
					for columns := -1; columns <= 7; columns++ {
						p, want := piece(top, left, rows, columns), api.ErrOver
						switch {
						case rows < 1 || columns < 1 || top < 0 || left < 0 || top+rows > len(s.Rows) || left+columns > len(s.Rows[0]):
							want = api.ErrRange
						case slices.ContainsFunc(figure, func(c cell) bool { return has(p, c) }):
							want = api.ErrPatch
						case slices.Contains(lie, p):
							want = api.OK
						}
						if e := patch.CheckPatch(s, p); e != want {
							t.Error(p, e, want)
						}
					}
				}
			}
		}
	})
}

// TestCheckPatches is P4.2 for CheckPatches: the examples, each error, and which one comes first.
func TestCheckPatches(t *testing.T) {
	for _, x := range []struct {
		name    string
		s       api.PatchSheet
		patches []api.PatchPiece
		cells   int
		e       api.Errno
	}{
		{"rows", sheetS(), pieces(0, 0, 1, 4, 2, 0, 1, 4), 8, api.OK},
		{"columns", sheetS(), pieces(0, 0, 3, 1, 0, 3, 3, 1), 6, api.OK},
		{"one row", sheetS(), pieces(0, 0, 1, 4), 0, api.ErrSum},
		{"each knot by itself", sheetS(), pieces(0, 0, 1, 1, 0, 3, 1, 1, 2, 0, 1, 1, 2, 3, 1, 1), 4, api.OK},
		{"all but the last knot", sheetS(), pieces(0, 0, 1, 1, 0, 3, 1, 1, 2, 0, 1, 1), 0, api.ErrSum},
		{"all but the first knot", sheetS(), pieces(2, 3, 1, 1, 0, 3, 1, 1, 2, 0, 1, 1), 0, api.ErrSum},
		{"one twice", sheetS(), pieces(0, 0, 3, 1, 0, 3, 3, 1, 0, 3, 3, 1), 9, api.OK},
		{"ones that cross", sheet(4, "ooo o.."), pieces(0, 0, 1, 3, 0, 0, 2, 1), 5, api.OK},
		{"a clear cell too", sheetS(), pieces(0, 0, 3, 1, 0, 3, 3, 1, 1, 2, 1, 1), 7, api.OK},
		{"none", sheetS(), nil, 0, api.ErrSum},
		{"none for no knots", sheet(4, "..#"), nil, 0, api.OK},
		{"empty", sheet(4, "..#"), pieces(), 0, api.OK},
		{"one for no knots", sheet(4, "..#"), pieces(0, 0, 1, 2), 2, api.OK},
		{"ten", sheet(1, "ooooo ooooo"), slices.Concat(pieces(0, 0, 1, 1, 0, 1, 1, 1, 0, 2, 1, 1, 0, 3, 1, 1, 0, 4, 1, 1), pieces(1, 0, 1, 1, 1, 1, 1, 1, 1, 2, 1, 1, 1, 3, 1, 1, 1, 4, 1, 1)), 10, api.OK},
		{"ten times all", sheet(36, "o....o ...... ...... ...... ...... o....o"), slices.Repeat(pieces(0, 0, 6, 6), 10), 360, api.OK},
		{"eleven", sheet(4, "o"), slices.Repeat(pieces(0, 0, 1, 1), 11), 0, api.ErrMany},
		{"eleven that cannot lie", sheet(4, "o"), slices.Repeat(pieces(0, 0, 1, 2), 11), 0, api.ErrMany},
		{"ten that leave a knot", sheet(4, "o."), slices.Repeat(pieces(0, 1, 1, 1), 10), 0, api.ErrSum},
		{"one that is not within the sheet", sheetS(), pieces(0, 0, 3, 1, 0, 3, 3, 1, 0, 3, 4, 1), 0, api.ErrRange},
		{"one over the figure", sheetS(), pieces(0, 0, 3, 1, 0, 3, 3, 1, 1, 0, 1, 2), 0, api.ErrPatch},
		{"one with too many cells", sheetS(), pieces(0, 0, 3, 1, 0, 2, 3, 2), 0, api.ErrOver},
		{"not within, then over the figure", sheetS(), pieces(0, 0, 1, 4, 2, 0, 1, 5, 0, 0, 2, 2), 0, api.ErrRange},
		{"over the figure, then not within", sheetS(), pieces(0, 0, 1, 4, 0, 0, 2, 2, 2, 0, 1, 5), 0, api.ErrPatch},
		{"too many cells, then not within", sheetS(), pieces(0, 2, 3, 2, 2, 0, 1, 5), 0, api.ErrOver},
		{"leaves a knot, the last one over the figure", sheetS(), pieces(0, 0, 1, 4, 1, 1, 1, 1), 0, api.ErrPatch},
		{"the greatest numbers", sheetS(), pieces(math.MaxInt, math.MaxInt, math.MaxInt, math.MaxInt), 0, api.ErrRange},
	} {
		if n, e := patch.CheckPatches(x.s, x.patches); n != x.cells || e != x.e {
			t.Error(x.name, n, e)
		}
	}
}

// TestCheckPatchesOfAny holds CheckPatches against the knots that patches have.
func TestCheckPatchesOfAny(t *testing.T) {
	mended, left := 0, 0
	each(t, 1000, func(r *rand.Rand, s api.PatchSheet) {
		lie, knots := lying(s), knotsOf(s)
		var patches []api.PatchPiece
		mask, cells := 0, 0
		for range min(r.Intn(11), 10*len(lie)) {
			p := lie[r.Intn(len(lie))]
			patches = append(patches, p)
			mask |= knotsUnder(p, knots)
			cells += p.Rows * p.Columns
		}
		want := api.OK
		if mask == 1<<len(knots)-1 {
			mended++
		} else {
			left++
			cells, want = 0, api.ErrSum
		}
		if n, e := patch.CheckPatches(s, patches); n != cells || e != want {
			t.Error(patches, n, e)
		}
	})
	if mended < 100 || left < 100 {
		t.Error("too few of a sort", mended, left)
	}
}
