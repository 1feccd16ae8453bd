package match_test

import (
	"math/rand"
	"slices"
	"testing"

	"crossband/api"
	"crossband/match"
)

func of(x ...int) []int                             { return x }
func lists(x ...[]int) [][]int                      { return x }
func rows(x ...[]api.MatchPlace) [][]api.MatchPlace { return x }

// place returns the place of a sheet.
func place(sheet, turned int) api.MatchPlace {
	return api.MatchPlace{Sheet: sheet, Turned: turned}
}

// row returns a place for each two numbers.
func row(x ...int) []api.MatchPlace {
	var out []api.MatchPlace
	for i := 0; i < len(x); i += 2 {
		out = append(out, place(x[i], x[i+1]))
	}
	return out
}

// straight returns the row of sheets that are not turned.
func straight(sheets ...int) []api.MatchPlace {
	var out []api.MatchPlace
	for _, sheet := range sheets {
		out = append(out, place(sheet, 0))
	}
	return out
}

// book returns a book with a sheet for each two figures.
func book(figures int, x ...int) api.MatchBook {
	b := api.MatchBook{Figures: figures}
	for i := 0; i < len(x); i += 2 {
		b.Sheets = append(b.Sheets, api.MatchSheet{Left: x[i], Right: x[i+1]})
	}
	return b
}

// withSheets returns a book with other sheets.
func withSheets(b api.MatchBook, sheets []api.MatchSheet) api.MatchBook {
	return api.MatchBook{Figures: b.Figures, Sheets: sheets}
}

// withoutSheet returns a book without one of its sheets, in other memory.
func withoutSheet(b api.MatchBook, at int) api.MatchBook {
	return withSheets(b, slices.Delete(slices.Clone(b.Sheets), at, at+1))
}

// withMore returns a book with more sheets behind its own, in other memory.
func withMore(b api.MatchBook, x ...int) api.MatchBook {
	return withSheets(b, append(slices.Clone(b.Sheets), book(1, x...).Sheets...))
}

// copied returns the same book in other memory.
func copied(b api.MatchBook) api.MatchBook { return withSheets(b, slices.Clone(b.Sheets)) }

// bookA, bookB and bookC are A, B and C of the chapter's examples.
func bookA() api.MatchBook { return book(4, 0, 1, 1, 2, 2, 0, 2, 3) }
func bookB() api.MatchBook { return book(5, 0, 1, 2, 3, 4, 4) }
func bookC() api.MatchBook { return book(2, 0, 1, 1, 0) }

// goodBooks are valid books, many of them at the edges.
var goodBooks = []api.MatchBook{
	bookA(),
	bookB(),
	bookC(),
	book(1),
	book(6),
	book(1, 0, 0),
	book(6, 5, 5),
	book(6, 5, 0),
	book(2, 0, 1, 0, 1),
	book(2, 0, 1, 0, 1, 0, 1),
	book(2, 0, 1, 0, 0, 1, 1),
	book(3, 1, 1, 0, 1),
	book(5, 0, 1, 0, 2, 0, 3, 0, 4), // a star
	book(5, 0, 1, 1, 2, 2, 0, 0, 3, 3, 4, 4, 0),                         // two rings at a figure
	book(6, 0, 1, 1, 2, 2, 0, 3, 4, 4, 5, 5, 3),                         // two rings that are parts
	book(6, 0, 1, 1, 2, 2, 0, 3, 4, 4, 5, 5, 3, 0, 3),                   // joined
	book(6, 0, 1, 2, 3, 4, 5),                                           // three parts
	book(6, 0, 1, 2, 3, 4, 5, 1, 2, 3, 4),                               // a line
	book(6, 3, 4, 1, 2, 0, 1, 4, 5, 2, 3),                               // another order
	book(4, 0, 1, 0, 2, 0, 3, 1, 2, 1, 3, 2, 3),                         // each figure with each other one
	book(5, 0, 1, 0, 2, 0, 3, 0, 4, 1, 2, 1, 3, 1, 4, 2, 3, 2, 4, 3, 4), // the same with five
	book(6, 0, 0, 1, 1, 2, 2, 3, 3, 4, 4, 5, 5),
	book(4, 0, 1, 1, 2, 2, 3, 3, 0, 0, 2),
	book(6, 0, 3, 0, 4, 0, 5, 1, 3, 1, 4, 1, 5, 2, 3, 2, 4, 2, 5), // three with three
	book(6, 0, 1, 0, 2, 3, 4, 3, 5, 1, 1, 4, 4),
	book(1, 0, 0, 0, 0, 0, 0, 0, 0, 0, 0, 0, 0, 0, 0, 0, 0, 0, 0, 0, 0),
	book(6, slices.Repeat(of(5, 0), 10)...),
	book(6, slices.Repeat(of(0, 5, 5, 0), 5)...),
	book(6, slices.Repeat(of(0, 1, 1, 2, 2, 3, 3, 4, 4, 5), 2)...),
}

// ends returns the figures with which a place begins and ends.
func ends(b api.MatchBook, p api.MatchPlace) (int, int) {
	s := b.Sheets[p.Sheet]
	if p.Turned == 1 {
		return s.Right, s.Left
	}
	return s.Left, s.Right
}

// sameSheet returns a function that reports whether a place is of a sheet.
func sameSheet(sheet int) func(p api.MatchPlace) bool {
	return func(p api.MatchPlace) bool { return p.Sheet == sheet }
}

// isLoop reports whether the figures of a sheet are the same.
func isLoop(b api.MatchBook, sheet int) bool { return b.Sheets[sheet].Left == b.Sheets[sheet].Right }

// checkedRow returns what CheckRow has to return.
func checkedRow(b api.MatchBook, row []api.MatchPlace) (int, int, api.Errno) {
	if len(row) == 0 {
		return 0, 0, api.ErrMany
	}
	for _, p := range row {
		if p.Sheet < 0 || p.Sheet >= len(b.Sheets) || p.Turned != 0 && p.Turned != 1 {
			return 0, 0, api.ErrRange
		}
	}
	times := make([]int, len(b.Sheets))
	for _, p := range row {
		times[p.Sheet]++
		if times[p.Sheet] > 1 {
			return 0, 0, api.ErrHave
		}
	}
	begin, end := ends(b, row[0])
	for _, p := range row[1:] {
		from, to := ends(b, p)
		if from != end {
			return 0, 0, api.ErrMatch
		}
		end = to
	}
	return begin, end, api.OK
}

// checkedRows returns what CheckRows has to return.
func checkedRows(b api.MatchBook, rows [][]api.MatchPlace) (int, api.Errno) {
	times := make([]int, len(b.Sheets))
	for _, row := range rows {
		if _, _, e := checkedRow(b, row); e != api.OK {
			return 0, e
		}
		for _, p := range row {
			times[p.Sheet]++
		}
	}
	switch {
	case len(times) == 0:
		return len(rows), api.OK
	case slices.Max(times) > 1:
		return 0, api.ErrHave
	case slices.Min(times) < 1:
		return 0, api.ErrEqual
	}
	return len(rows), api.OK
}

// checkedRing returns what CheckRing has to return.
func checkedRing(b api.MatchBook, row []api.MatchPlace) api.Errno {
	begin, end, e := checkedRow(b, row)
	if e != api.OK {
		return e
	}
	for sheet := range b.Sheets {
		if !slices.ContainsFunc(row, sameSheet(sheet)) {
			return api.ErrEqual
		}
	}
	if begin != end {
		return api.ErrMatch
	}
	return api.OK
}

// oddByHand returns the odd figures.
func oddByHand(b api.MatchBook) []int {
	var out []int
	for figure := range b.Figures {
		many := 0
		for _, s := range b.Sheets {
			for _, f := range of(s.Left, s.Right) {
				if f == figure {
					many++
				}
			}
		}
		if many%2 != 0 {
			out = append(out, figure)
		}
	}
	return out
}

// together returns for each two of so many things whether one after another of those that touch goes from the one to the other one.
func together(many int, touch func(i, j int) bool) [][]bool {
	out := make([][]bool, many)
	for i := range out {
		out[i] = make([]bool, many)
		for j := range out[i] {
			out[i][j] = i == j || touch(i, j) || touch(j, i)
		}
	}
	for k := range out {
		for i := range out {
			for j := range out {
				out[i][j] = out[i][j] || out[i][k] && out[k][j]
			}
		}
	}
	return out
}

// partsByHand returns the parts.
func partsByHand(b api.MatchBook) [][]int {
	var out [][]int
	hang := together(len(b.Sheets), func(i, j int) bool {
		s, u := b.Sheets[i], b.Sheets[j]
		return s.Left == u.Left || s.Left == u.Right || s.Right == u.Left || s.Right == u.Right
	})
	for i := range hang {
		var part []int
		for j := range hang {
			if hang[i][j] {
				part = append(part, j)
			}
		}
		if part[0] == i {
			out = append(out, part)
		}
	}
	return out
}

// joined returns for each two figures whether there is a chain between them, or they are the same.
func joined(b api.MatchBook) [][]bool {
	return together(b.Figures, func(i, j int) bool {
		return slices.Contains(b.Sheets, api.MatchSheet{Left: i, Right: j})
	})
}

// joinsByHand returns the joins.
func joinsByHand(b api.MatchBook) []int {
	var out []int
	for i, s := range b.Sheets {
		if s.Left != s.Right && !joined(withoutSheet(b, i))[s.Left][s.Right] {
			out = append(out, i)
		}
	}
	return out
}

// gaps returns how few places do not match the one before them if all sheets lie in a line, and if the first place also follows the last one.
func gaps(b api.MatchBook) (line, ring int) {
	n := len(b.Sheets)
	best := func(start func(p api.MatchPlace) bool, last func(begin, end int) int) int {
		// few[set][place] is how few gaps lines of a set of sheets have that end with a place, counted twice as a number.
		few := make([][]int, 1<<n)
		for set := range few {
			few[set] = slices.Repeat(of(1000), 2*n)
			for at := range 2 * n {
				p := place(at/2, at%2)
				rest := set &^ (1 << p.Sheet)
				begin, _ := ends(b, p)
				switch {
				case rest == set:
				case rest == 0:
					if start(p) {
						few[set][at] = 0
					}
				default:
					for other := range 2 * n {
						_, end := ends(b, place(other/2, other%2))
						few[set][at] = min(few[set][at], few[rest][other]+gap(end, begin))
					}
				}
			}
		}
		out := 1000
		for at, many := range few[1<<n-1] {
			_, end := ends(b, place(at/2, at%2))
			out = min(out, many+last(b.Sheets[0].Left, end))
		}
		return out
	}
	line = best(func(api.MatchPlace) bool { return true }, func(int, int) int { return 0 })
	ring = best(func(p api.MatchPlace) bool { return p == place(0, 0) }, func(begin, end int) int { return gap(end, begin) })
	return line, ring
}

// gap returns 1 if two figures do not match, otherwise 0.
func gap(end, begin int) int {
	if end != begin {
		return 1
	}
	return 0
}

// fewestByHand returns in how few rows all sheets can lie, and how many more sheets have to be there for a ring: one for each gap.
func fewestByHand(b api.MatchBook) (few, missing int) {
	if len(b.Sheets) == 0 {
		return 0, 0
	}
	line, ring := gaps(b)
	return line + 1, ring
}

// oneByHand returns the first row of all sheets that matches, or none: it tries all places in their order, but those again after which it failed.
func oneByHand(b api.MatchBook) []api.MatchPlace {
	failed := map[[2]int]bool{} // sets of sheets that are there, with the figure at the end
	var try func(row []api.MatchPlace, end, set int) []api.MatchPlace
	try = func(row []api.MatchPlace, end, set int) []api.MatchPlace {
		if len(row) == len(b.Sheets) {
			return row
		}
		if failed[[2]int{set, end}] {
			return nil
		}
		for at := range 2 * len(b.Sheets) {
			p := place(at/2, at%2)
			from, to := ends(b, p)
			if set>>p.Sheet&1 == 1 || len(row) > 0 && from != end {
				continue
			}
			if out := try(longer(row, p), to, set|1<<p.Sheet); out != nil {
				return out
			}
		}
		failed[[2]int{set, end}] = true
		return nil
	}
	return try(nil, -1, 0)
}

// chainByHand returns the first shortest chain, or none: of all rows that match, shorter ones first, the first one that is a chain.
func chainByHand(b api.MatchBook, from, to int) []api.MatchPlace {
	if !joined(b)[from][to] {
		return nil
	}
	all := rows(nil)
	for {
		var next [][]api.MatchPlace
		for _, row := range all {
			for at := range 2 * len(b.Sheets) {
				more := longer(row, place(at/2, at%2))
				begin, end, e := checkedRow(b, more)
				if e == api.OK && begin == from {
					next = append(next, more)
				}
				if e == api.OK && begin == from && end == to {
					return more
				}
			}
		}
		all = next
	}
}

// figuresOf returns the figures of some sheets, increasing.
func figuresOf(b api.MatchBook, sheets []int) []int {
	var out []int
	for _, sheet := range sheets {
		out = append(out, b.Sheets[sheet].Left, b.Sheets[sheet].Right)
	}
	slices.Sort(out)
	return slices.Compact(out)
}

// turnedRound returns a row that is turned round.
func turnedRound(row []api.MatchPlace) []api.MatchPlace {
	var out []api.MatchPlace
	for _, p := range slices.Backward(row) {
		out = append(out, place(p.Sheet, 1-p.Turned))
	}
	return out
}

// randomRow returns a row that matches, of some of the sheets that are left, if there are any.
func randomRow(r *rand.Rand, b api.MatchBook, left []int) []api.MatchPlace {
	var out []api.MatchPlace
	left = slices.Clone(left)
	for len(left) > 0 && (len(out) == 0 || r.Intn(8) > 0) {
		found := false
		for _, i := range r.Perm(len(left)) {
			more := longer(out, place(left[i], r.Intn(2)))
			if _, _, e := checkedRow(b, more); e == api.OK {
				out, left, found = more, slices.Delete(left, i, i+1), true
				break
			}
		}
		if !found && r.Intn(3) == 0 {
			break
		}
	}
	return out
}

// randomRows returns rows.
func randomRows(r *rand.Rand, b api.MatchBook) [][]api.MatchPlace {
	var out [][]api.MatchPlace
	var left []int
	for sheet := range b.Sheets {
		left = append(left, sheet)
	}
	for len(left) > 0 {
		row := randomRow(r, b, left)
		left = slices.DeleteFunc(left, func(sheet int) bool { return slices.ContainsFunc(row, sameSheet(sheet)) })
		out = append(out, row)
	}
	return out
}

// randomBook returns a book with up to so many sheets: any ones, or those of rows that match, in any order.
func randomBook(r *rand.Rand, most int) api.MatchBook {
	b := api.MatchBook{Figures: min(6, 1+r.Intn(8))}
	lines, end, begin := r.Intn(3), r.Intn(b.Figures), 0
	for range max(r.Intn(most+1), r.Intn(most+1)) {
		s := api.MatchSheet{Left: r.Intn(b.Figures), Right: r.Intn(b.Figures)}
		if lines > 0 && r.Intn(6) > 0 {
			s.Left = end
		}
		if len(b.Sheets) == 0 {
			begin = s.Left
		}
		end = s.Right
		b.Sheets = append(b.Sheets, s)
	}
	if n := len(b.Sheets); n > 0 && lines > 1 {
		b.Sheets[n-1].Right = begin
	}
	if n := len(b.Sheets); n > 1 && r.Intn(6) == 0 {
		b.Sheets[n-1] = b.Sheets[0]
	}
	r.Shuffle(len(b.Sheets), func(i, j int) { b.Sheets[i], b.Sheets[j] = b.Sheets[j], b.Sheets[i] })
	for i, s := range b.Sheets {
		if r.Intn(2) == 0 {
			b.Sheets[i] = api.MatchSheet{Left: s.Right, Right: s.Left}
		}
	}
	return b
}

// full is the greatest number of sheets.
const full = api.MaxMatchSheets

// each calls f with the good books, and with others, up to so many sheets.
func each(t *testing.T, times, most int, f func(r *rand.Rand, b api.MatchBook)) {
	t.Helper()
	r := rand.New(rand.NewSource(int64(times)))
	for i := range len(goodBooks) + times {
		b := randomBook(r, most)
		if i < len(goodBooks) {
			b = copied(goodBooks[i])
		}
		if len(b.Sheets) > most {
			continue
		}
		f(r, b)
		if t.Failed() {
			t.Fatal(b)
		}
	}
}

// eachSmall calls f with all books with so many figures and sheets.
func eachSmall(t *testing.T, figures, sheets int, f func(b api.MatchBook)) {
	t.Helper()
	all := 1
	for range sheets {
		all *= figures * figures
	}
	for number := range all {
		b := book(figures)
		for range sheets {
			b = withMore(b, number%figures, number/figures%figures)
			number /= figures * figures
		}
		f(b)
		if t.Failed() {
			t.Fatal(b)
		}
	}
}

// eachOfAll calls f with all small books, and with the good ones, and others of all sizes.
func eachOfAll(t *testing.T, times int, f func(b api.MatchBook)) {
	t.Helper()
	for sheets := range 5 {
		eachSmall(t, 3, sheets, f)
	}
	for sheets := range 4 {
		eachSmall(t, 4, sheets, f)
	}
	each(t, times, 6, func(_ *rand.Rand, b api.MatchBook) { f(b) })
	each(t, times/8, full, func(_ *rand.Rand, b api.MatchBook) { f(b) })
}

// told returns what a function tells of a book with which it returns no error.
func told[T any](t *testing.T, f func(api.MatchBook) (T, api.Errno), b api.MatchBook) T {
	t.Helper()
	x, e := f(b)
	if e != api.OK {
		t.Fatal(b, e)
	}
	return x
}

// fewest returns in how few rows all sheets can lie.
func fewest(t *testing.T, b api.MatchBook) int {
	t.Helper()
	return told(t, match.Fewest, b)
}

// first returns the result of a call, and its error.
func first[T any](x T, e api.Errno) (any, api.Errno) { return x, e }

// longer returns a list with one element more, in other memory.
func longer[T any](list []T, x T) []T { return append(slices.Clone(list), x) }

// equal reports whether two lists of lists are equal.
func equal[T comparable](a, b [][]T) bool { return slices.EqualFunc(a, b, slices.Equal[[]T]) }
