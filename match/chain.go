package match

import (
	"cmp"

	"crossband/api"
)

// mark marks a figure with 1, and each one from which a chain goes to it with one more than the shortest one has sheets that still have to be laid. All others have no mark, 0.
func (t *table) mark(to int) {
	clear(t.marks[:])
	t.marks[to] = 1
	for reached := []int{to}; len(reached) > 0; reached = reached[1:] {
		for p := range t.at(reached[0]) {
			next := t.end(p)
			if !t.isMarked(next) {
				t.marks[next] = t.marks[reached[0]] + 1
				reached = grown(reached, next)
			}
		}
	}
}

// isMarked reports whether a figure is marked.
func (t *table) isMarked(figure int) bool { return t.marks[figure] > 0 }

// hangsOn reports whether a sheet hangs on the figures that are marked. It then has two of them, or twice one.
func (t *table) hangsOn(sheet int) bool { return t.isMarked(t.Sheets[sheet].Left) }

// nearer compares two places by how far the figures are with which they end.
func (t *table) nearer(p, other api.MatchPlace) int {
	return cmp.Compare(t.marks[t.end(p)], t.marks[t.end(other)])
}

// chain returns the first shortest chain from a figure that is marked to the one from which marks were counted. From each figure it goes on at the first place that comes nearer.
func (t *table) chain(from, to int) []api.MatchPlace {
	var chain []api.MatchPlace
	for figure := from; figure != to; {
		p := pick(t.at(figure), t.nearer)
		chain = grown(chain, p)
		figure = t.end(p)
	}
	return taken(chain)
}

// isJoin reports whether a sheet is a join: whether there is no chain between its figures when it lies.
func isJoin(b api.MatchBook, sheet int) bool {
	t := tableOf(b)
	t.lay(api.MatchPlace{Sheet: sheet})
	t.mark(b.Sheets[sheet].Left)
	return !t.isMarked(b.Sheets[sheet].Right)
}
