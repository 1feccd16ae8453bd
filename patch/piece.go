package patch

import "crossband/api"

// cells returns how many cells a patch has.
func cells(p api.PatchPiece) int { return p.Rows * p.Columns }

// covered returns how many cells patches cover.
func covered(patches []api.PatchPiece) int {
	sum := 0
	for _, p := range patches {
		sum += cells(p)
	}
	return sum
}

// hasMore reports whether a patch has more cells than another one.
func hasMore(p, q api.PatchPiece) bool { return cells(p) > cells(q) }

// joined returns the least rectangle that has all cells of two.
func joined(p, q api.PatchPiece) api.PatchPiece {
	top, left := min(p.Top, q.Top), min(p.Left, q.Left)
	bottom, right := max(p.Top+p.Rows, q.Top+q.Rows), max(p.Left+p.Columns, q.Left+q.Columns)
	return api.PatchPiece{Top: top, Left: left, Rows: bottom - top, Columns: right - left}
}
