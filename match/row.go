package match

import (
	"slices"

	"crossband/api"
)

// parts returns the parts of the sheets that still have to be laid.
func (t *table) parts() [][]int {
	var parts [][]int
	for rest := t.waiting(); len(rest) > 0; rest = slices.DeleteFunc(rest, t.hangsOn) {
		t.mark(t.Sheets[rest[0]].Left)
		parts = grown(parts, those(rest, t.hangsOn))
	}
	return parts
}

// edgesOf returns the edges by some sheets.
func (t *table) edgesOf(sheets []int) edges {
	var x edges
	for _, sheet := range sheets {
		x.add(t.Sheets[sheet], 1)
	}
	return x
}

// fewest returns in how few rows the sheets lie that still have to be laid: a row has two ends, and each odd figure of a part is one.
func (t *table) fewest() int {
	rows := 0
	for _, part := range t.parts() {
		rows += max(1, len(t.edgesOf(part).odd())/2)
	}
	return rows
}

// hasRing reports whether there is a ring of the sheets that still have to be laid.
func (t *table) hasRing() bool {
	return t.fewest() == 1 && len(t.edges.odd()) == 0
}

// fewestAfter returns in how few rows these sheets lie if a row goes on with a place; that row is one of them. As it can grow only behind the place, it counts as one sheet, which has there the figure of the place, and in front one that no other sheet has.
func (t *table) fewestAfter(p api.MatchPlace) int {
	alone := t.Figures
	sheets := []api.MatchSheet{{Left: alone, Right: t.end(p)}}
	for _, sheet := range t.waiting() {
		if sheet != p.Sheet {
			sheets = grown(sheets, t.Sheets[sheet])
		}
	}
	return tableOf(api.MatchBook{Figures: alone + 1, Sheets: sheets}).fewest()
}

// row lays a row, the first one that saves a row, and returns it: of what is left then, one row less is the fewest. If all can lie in one row it is the first row of all.
func (t *table) row() []api.MatchPlace {
	var row []api.MatchPlace
	fewest, next := t.fewest(), t.places()
search:
	for {
		for p := range next {
			if t.fewestAfter(p) == fewest {
				t.lay(p)
				row, next = grown(row, p), t.at(t.end(p))
				continue search
			}
		}
		return taken(row)
	}
}

// rows lays all sheets that still have to be laid in as few rows as can be, and returns these.
func (t *table) rows() [][]api.MatchPlace {
	var rows [][]api.MatchPlace
	for !t.isBare() {
		rows = grown(rows, t.row())
	}
	return rows
}
