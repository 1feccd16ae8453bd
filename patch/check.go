package patch

import "strings"

// The cells of a sheet.
const (
	clearCell  = "."
	knotCell   = "o"
	figureCell = "#"
)

// within reports whether all numbers are from lo to hi.
func within(lo, hi int, numbers ...int) bool {
	for _, n := range numbers {
		if n < lo || n > hi {
			return false
		}
	}
	return true
}

// areCells reports whether all bytes of a row are cells.
func areCells(row string) bool {
	return strings.Count(row, clearCell)+strings.Count(row, knotCell)+strings.Count(row, figureCell) == len(row)
}

// knotCount returns how many knots rows have.
func knotCount(rows []string) int {
	return strings.Count(strings.Join(rows, ""), knotCell)
}
