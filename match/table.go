package match

import (
	"iter"

	"crossband/api"
)

// figures is how many figures a table can have: those of a book, and one more (see fewestAfter).
const figures = api.MaxMatchFigures + 1

// edges is how many edges each figure has, the figure being the index.
type edges [figures]int

// add adds the edges of a sheet so many times.
func (x *edges) add(s api.MatchSheet, times int) {
	x[s.Left] += times
	x[s.Right] += times
}

// odd returns the odd figures, increasing.
func (x edges) odd() []int {
	var odd []int
	for figure, many := range x {
		if many%2 == 1 {
			odd = grown(odd, figure)
		}
	}
	return odd
}

// table is a table with its book, and the sheets of it that still have to be laid.
type table struct {
	api.MatchBook
	left  map[api.MatchPlace]bool // both places of each of these sheets
	edges edges                   // by these sheets
	marks [figures]int            // of how far a figure is: see mark
}

// open returns a table with a book, or the error of the book.
func open(b api.MatchBook) (*table, api.Errno) {
	if e := CheckBook(b); e != api.OK {
		return nil, e
	}
	return tableOf(b), api.OK
}

// tableOf returns a table with a book, of which no sheet lies.
func tableOf(b api.MatchBook) *table {
	t := &table{MatchBook: b, left: map[api.MatchPlace]bool{}}
	for sheet, s := range b.Sheets {
		for turned := range 2 {
			t.left[api.MatchPlace{Sheet: sheet, Turned: turned}] = true
		}
		t.edges.add(s, 1)
	}
	return t
}

// begin returns the figure with which a place begins.
func (t *table) begin(p api.MatchPlace) int {
	if p.Turned == 1 {
		return t.Sheets[p.Sheet].Right
	}
	return t.Sheets[p.Sheet].Left
}

// end returns the figure with which a place ends.
func (t *table) end(p api.MatchPlace) int { return t.begin(turn(p)) }

// turn returns a place with its sheet turned round.
func turn(p api.MatchPlace) api.MatchPlace {
	return api.MatchPlace{Sheet: p.Sheet, Turned: 1 - p.Turned}
}

// lay lays a sheet at a place: it does not have to be laid any more.
func (t *table) lay(p api.MatchPlace) {
	delete(t.left, p)
	delete(t.left, turn(p))
	t.edges.add(t.Sheets[p.Sheet], -1)
}

// isBare reports whether no sheet has to be laid: then no figure has an edge.
func (t *table) isBare() bool { return t.edges == edges{} }

// waiting returns the sheets that still have to be laid, increasing.
func (t *table) waiting() []int {
	var sheets []int
	for p := range t.places() {
		if p.Turned == 0 {
			sheets = grown(sheets, p.Sheet)
		}
	}
	return sheets
}

// places yields both places of each sheet that still has to be laid, in the order of places.
func (t *table) places() iter.Seq[api.MatchPlace] {
	return func(yield func(api.MatchPlace) bool) {
		for sheet := range t.Sheets {
			for turned := range 2 {
				p := api.MatchPlace{Sheet: sheet, Turned: turned}
				if t.left[p] && !yield(p) {
					return
				}
			}
		}
	}
}

// at yields the places that begin with a figure, of sheets that still have to be laid, in the order of places.
func (t *table) at(figure int) iter.Seq[api.MatchPlace] {
	return func(yield func(api.MatchPlace) bool) {
		for p := range t.places() {
			if t.begin(p) == figure && !yield(p) {
				return
			}
		}
	}
}
