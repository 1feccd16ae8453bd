package patch

import (
	"iter"

	"crossband/api"
)

// tally is how many cells of figure there are above and to the left of each corner of cells.
type tally [api.MaxPatchSide + 1][api.MaxPatchSide + 1]int

// bench is the bench, with the sheet that is mended on it.
type bench struct {
	api.PatchSheet
	figure tally
	at     []api.PatchPiece       // the patch of one cell over each knot
	shares []set                  // the other knots that each knot can share with
	under  map[set]api.PatchPiece // the sets of knots of a part that can be under one patch, with their least rectangles
	mended map[set]mending        // how sets of knots of the part are mended, as far as it was asked for
}

// lay returns a bench with a sheet, or the error of the sheet.
func lay(s api.PatchSheet) (*bench, api.Errno) {
	if e := CheckSheet(s); e != api.OK {
		return nil, e
	}
	b := &bench{PatchSheet: s, under: map[set]api.PatchPiece{}, mended: map[set]mending{}}
	for row := range b.Rows {
		for column := range b.columns() {
			b.look(row, column)
		}
	}
	b.shares = related(len(b.at), b.canShare)
	return b, api.OK
}

// look counts a cell; all cells above and to the left of it were counted before.
func (b *bench) look(row, column int) {
	count := b.figure[row][column+1] + b.figure[row+1][column] - b.figure[row][column]
	switch b.Rows[row][column : column+1] {
	case figureCell:
		count++
	case knotCell:
		b.at = grown(b.at, api.PatchPiece{Top: row, Left: column, Rows: 1, Columns: 1})
	}
	b.figure[row+1][column+1] = count
}

func (b *bench) columns() int { return len(b.Rows[0]) }

// knots returns the set of all knots.
func (b *bench) knots() set {
	var s set
	for knot := range b.at {
		s = s.with(of(knot))
	}
	return s
}

// check returns what CheckPatch does. Where the patch begins is known to be within the sheet before it is taken from where the sheet ends, so no difference is too great for an int.
func (b *bench) check(p api.PatchPiece) api.Errno {
	rows, columns := len(b.Rows), b.columns()
	switch {
	case !within(0, rows-1, p.Top) || !within(1, rows-p.Top, p.Rows):
		return api.ErrRange
	case !within(0, columns-1, p.Left) || !within(1, columns-p.Left, p.Columns):
		return api.ErrRange
	case b.figureIn(p) > 0:
		return api.ErrPatch
	case cells(p) > b.Most:
		return api.ErrOver
	}
	return api.OK
}

// figureIn returns how many cells of a patch are figure.
func (b *bench) figureIn(p api.PatchPiece) int {
	if b.figure == (tally{}) { // no cell is
		return 0
	}
	above, below := b.figure[p.Top], b.figure[p.Top+p.Rows]
	return below[p.Left+p.Columns] - below[p.Left] - above[p.Left+p.Columns] + above[p.Left]
}

// patches yields the patches that can lie, in their order.
func (b *bench) patches() iter.Seq[api.PatchPiece] {
	return func(yield func(api.PatchPiece) bool) {
		for p := range b.pieces() {
			if b.check(p) == api.OK && !yield(p) {
				return
			}
		}
	}
}

// pieces yields the rectangles of a sheet, in the order of patches.
func (b *bench) pieces() iter.Seq[api.PatchPiece] {
	return func(yield func(api.PatchPiece) bool) {
		for top := range b.Rows {
			for left := range b.columns() {
				for rows := range len(b.Rows) - top {
					for columns := range b.columns() - left {
						if !yield(api.PatchPiece{Top: top, Left: left, Rows: rows + 1, Columns: columns + 1}) {
							return
						}
					}
				}
			}
		}
	}
}
