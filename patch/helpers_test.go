package patch_test

import (
	"math/rand"
	"slices"
	"strings"
	"testing"

	"crossband/api"
	"crossband/patch"
)

func indexes(x ...int) []int   { return x }
func lists(x ...[]int) [][]int { return x }

// sheet returns a sheet with rows that are parted by blanks.
func sheet(most int, rows string) api.PatchSheet {
	return api.PatchSheet{Rows: strings.Fields(rows), Most: most}
}

// piece returns the patch that the chapter writes so.
func piece(top, left, rows, columns int) api.PatchPiece {
	return api.PatchPiece{Top: top, Left: left, Rows: rows, Columns: columns}
}

// pieces returns a patch for each four numbers.
func pieces(x ...int) []api.PatchPiece {
	var out []api.PatchPiece
	for i := 0; i < len(x); i += 4 {
		out = append(out, piece(x[i], x[i+1], x[i+2], x[i+3]))
	}
	return out
}

// sheetS and sheetT are S and T of the chapter's examples.
func sheetS() api.PatchSheet { return sheet(4, "o..o .#.. o..o") }
func sheetT() api.PatchSheet { return sheet(4, "o.o .#. ... o.o") }

// withMost returns a sheet with another Most.
func withMost(s api.PatchSheet, most int) api.PatchSheet {
	return api.PatchSheet{Rows: slices.Clone(s.Rows), Most: most}
}

// withCell returns a sheet with another cell.
func withCell(s api.PatchSheet, at cell, kind byte) api.PatchSheet {
	out := withMost(s, s.Most)
	row := []byte(out.Rows[at.row])
	row[at.column] = kind
	out.Rows[at.row] = string(row)
	return out
}

// cell is where a cell is.
type cell struct{ row, column int }

// cellsOf returns where cells of a kind are, row by row.
func cellsOf(s api.PatchSheet, kind byte) []cell {
	var out []cell
	for row := range s.Rows {
		for column := range s.Rows[row] {
			if s.Rows[row][column] == kind {
				out = append(out, cell{row, column})
			}
		}
	}
	return out
}

func knotsOf(s api.PatchSheet) []cell { return cellsOf(s, 'o') }

// has reports whether a cell is one of a patch.
func has(p api.PatchPiece, c cell) bool {
	return p.Top <= c.row && c.row < p.Top+p.Rows && p.Left <= c.column && c.column < p.Left+p.Columns
}

// lying returns the patches that can lie, in their order, each cell looked at by itself.
func lying(s api.PatchSheet) []api.PatchPiece {
	var out []api.PatchPiece
	figure := cellsOf(s, '#')
	for top := range len(s.Rows) {
		for left := range len(s.Rows[0]) {
			for rows := 1; top+rows <= len(s.Rows); rows++ {
				for columns := 1; left+columns <= len(s.Rows[0]); columns++ {
					p := piece(top, left, rows, columns)
					if rows*columns <= s.Most && !slices.ContainsFunc(figure, func(c cell) bool { return has(p, c) }) {
						out = append(out, p)
					}
				}
			}
		}
	}
	return out
}

// knotsUnder returns the knots that a patch has, a bit for each.
func knotsUnder(p api.PatchPiece, knots []cell) int {
	mask := 0
	for i, knot := range knots {
		if has(p, knot) {
			mask |= 1 << i
		}
	}
	return mask
}

// byHand returns the least number of patches that mend a sheet, and how few cells as few cover. One patch after the other is laid down, whichever can lie.
func byHand(s api.PatchSheet) (few, cells int) {
	knots, patches := knotsOf(s), lying(s)
	covered := map[int]int{0: 0} // how few cells so many patches cover that have just some knots
	for {
		if n, ok := covered[1<<len(knots)-1]; ok {
			return few, n
		}
		next := map[int]int{}
		for mask, n := range covered {
			for _, p := range patches {
				with := mask | knotsUnder(p, knots)
				if old, ok := next[with]; !ok || n+p.Rows*p.Columns < old {
					next[with] = n + p.Rows*p.Columns
				}
			}
		}
		covered, few = next, few+1
	}
}

// sharing returns for each two knots whether they can share: whether a patch that can lie has both.
func sharing(s api.PatchSheet) [][]bool {
	knots := knotsOf(s)
	out := make([][]bool, len(knots))
	for i := range knots {
		out[i] = make([]bool, len(knots))
	}
	for _, p := range lying(s) {
		for i, a := range knots {
			for j, b := range knots {
				out[i][j] = out[i][j] || i != j && has(p, a) && has(p, b)
			}
		}
	}
	return out
}

// areAlone reports whether no two of some knots can share.
func areAlone(share [][]bool, knots []int) bool {
	for i, a := range knots {
		for _, b := range knots[:i] {
			if share[a][b] {
				return false
			}
		}
	}
	return true
}

// partsByHand returns the parts, from whether there is a chain between each two knots.
func partsByHand(s api.PatchSheet) [][]int {
	chain := sharing(s)
	for k := range chain {
		for i := range chain {
			for j := range chain {
				chain[i][j] = chain[i][j] || chain[i][k] && chain[k][j]
			}
		}
	}
	var out [][]int
	for i := range chain {
		if slices.Contains(chain[i][:i], true) {
			continue // it is in the part of a knot before it
		}
		part := indexes(i)
		for j := i + 1; j < len(chain); j++ {
			if chain[i][j] {
				part = append(part, j)
			}
		}
		out = append(out, part)
	}
	return out
}

// turnedByHand returns a sheet turned once.
func turnedByHand(s api.PatchSheet) api.PatchSheet {
	out := api.PatchSheet{Most: s.Most}
	for column := range len(s.Rows[0]) {
		row := ""
		for i := len(s.Rows) - 1; i >= 0; i-- {
			row += s.Rows[i][column : column+1]
		}
		out.Rows = append(out.Rows, row)
	}
	return out
}

// around returns the least rectangle with all of some cells.
func around(cells []cell) api.PatchPiece {
	low, high := cells[0], cells[0]
	for _, c := range cells {
		low = cell{min(low.row, c.row), min(low.column, c.column)}
		high = cell{max(high.row, c.row), max(high.column, c.column)}
	}
	return piece(low.row, low.column, high.row-low.row+1, high.column-low.column+1)
}

// subsets returns all strictly increasing lists of the numbers below n, in lexicographic order.
func subsets(n int) [][]int {
	var out [][]int
	for mask := range 1 << n {
		var list []int
		for i := range n {
			if mask>>i&1 == 1 {
				list = append(list, i)
			}
		}
		out = append(out, list)
	}
	slices.SortFunc(out, slices.Compare[[]int])
	return out
}

// randomSheet returns a sheet of up to so many rows, columns and knots.
func randomSheet(r *rand.Rand, rows, columns, knots int) api.PatchSheet {
	return randomOfSize(r, 1+r.Intn(rows), 1+r.Intn(columns), knots)
}

// randomOfSize returns a sheet of so many rows and columns, and up to so many knots.
func randomOfSize(r *rand.Rand, rows, columns, knots int) api.PatchSheet {
	out := api.PatchSheet{Most: 1 + r.Intn([]int{4, 9, 36}[r.Intn(3)])}
	figure := []int{0, 2, 5, 12}[r.Intn(4)]
	left := r.Intn(knots + 1)
	for i := range rows {
		row := make([]byte, columns)
		for j := range row {
			row[j] = '.'
			if r.Intn(24) < figure {
				row[j] = '#'
			}
			if cells := rows*columns - i*columns - j; left > 0 && r.Intn(cells) < left {
				row[j] = 'o'
				left--
			}
		}
		out.Rows = append(out.Rows, string(row))
	}
	return out
}

// each calls f with sheets up to the limits.
func each(t *testing.T, times int, f func(r *rand.Rand, s api.PatchSheet)) {
	t.Helper()
	r := rand.New(rand.NewSource(int64(times)))
	for _, s := range goodSheets {
		f(r, s)
		if t.Failed() {
			t.Fatal(s)
		}
	}
	for range times {
		s := randomSheet(r, 6, 6, 10)
		f(r, s)
		if t.Failed() {
			t.Fatal(s)
		}
	}
}

// told returns what a function tells of a valid sheet.
func told[T any](t *testing.T, f func(api.PatchSheet) (T, api.Errno), s api.PatchSheet) T {
	t.Helper()
	x, e := f(s)
	if e != api.OK {
		t.Fatal(s, e)
	}
	return x
}

func fewest(t *testing.T, s api.PatchSheet) int {
	t.Helper()
	return told(t, patch.Fewest, s)
}

func cellsFor(t *testing.T, s api.PatchSheet) int {
	t.Helper()
	return told(t, patch.Cells, s)
}

func patchesFor(t *testing.T, s api.PatchSheet) []api.PatchPiece {
	t.Helper()
	return told(t, patch.Patches, s)
}

func alone(t *testing.T, s api.PatchSheet) []int {
	t.Helper()
	return told(t, patch.Alone, s)
}

func parts(t *testing.T, s api.PatchSheet) [][]int {
	t.Helper()
	return told(t, patch.Parts, s)
}

// largestCells returns how many cells the largest patch has, 0 if none can lie.
func largestCells(t *testing.T, s api.PatchSheet) int {
	t.Helper()
	p, e := patch.Largest(s)
	if e != api.OK && e != api.ErrNone {
		t.Fatal(s, e)
	}
	return p.Rows * p.Columns
}

func turn(t *testing.T, s api.PatchSheet, times int) api.PatchSheet {
	t.Helper()
	out, e := patch.Turn(s, times)
	if e != api.OK {
		t.Fatal(s, times, e)
	}
	return out
}

// equalSheets reports whether two sheets are the same.
func equalSheets(s, t api.PatchSheet) bool {
	return s.Most == t.Most && slices.Equal(s.Rows, t.Rows)
}

// equalLists reports whether two lists of lists are the same.
func equalLists(a, b [][]int) bool { return slices.EqualFunc(a, b, slices.Equal[[]int]) }
