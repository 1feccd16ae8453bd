package match_test

import (
	"math"
	"math/rand"
	"slices"
	"testing"

	"crossband/api"
	"crossband/match"
)

// badBooks are books that are not valid, with their errors; of several errors the one named first (R1).
var badBooks = []struct {
	name string
	b    api.MatchBook
	e    api.Errno
}{
	{"no figure", book(0), api.ErrMany},
	{"no figure, a sheet", book(0, 0, 0), api.ErrMany},
	{"fewer figures than none", book(-1), api.ErrMany},
	{"fewer figures than none, a sheet of these", book(-1, -1, -1), api.ErrMany},
	{"the least number of figures", book(math.MinInt, 0, 1), api.ErrMany},
	{"7 figures", book(7), api.ErrMany},
	{"7 figures, sheets of these", book(7, 6, 6, 0, 6), api.ErrMany},
	{"7 figures, a sheet without", book(7, 0, 7), api.ErrMany},
	{"the greatest number of figures", book(math.MaxInt, 0, 1), api.ErrMany},
	{"11 sheets", book(6, slices.Repeat(of(0, 5), 11)...), api.ErrMany},
	{"11 sheets of one figure", book(1, slices.Repeat(of(0, 0), 11)...), api.ErrMany},
	{"11 sheets, none of them valid", book(6, slices.Repeat(of(6, -1), 11)...), api.ErrMany},
	{"far too many sheets", withSheets(book(6), make([]api.MatchSheet, 5000)), api.ErrMany},
	{"a figure below 0 at the left", book(2, -1, 0), api.ErrRange},
	{"a figure below 0 at the right", book(2, 0, -1), api.ErrRange},
	{"too great a figure at the left", book(2, 2, 0), api.ErrRange},
	{"too great a figure at the right", book(2, 0, 2), api.ErrRange},
	{"too great a figure of six", book(6, 0, 6), api.ErrRange},
	{"too great a figure of one", book(1, 1, 0), api.ErrRange},
	{"too great a figure at both edges", book(3, 3, 3), api.ErrRange},
	{"the last of three", book(4, 0, 1, 1, 2, 2, 4), api.ErrRange},
	{"the first of three", book(4, 4, 1, 1, 2, 2, 3), api.ErrRange},
	{"the last of 10", book(5, slices.Concat(slices.Repeat(of(4, 4), 9), of(5, 4))...), api.ErrRange},
	{"the greatest figure", book(6, math.MaxInt, 0), api.ErrRange},
	{"the least figure", book(6, 0, math.MinInt), api.ErrRange},
}

// TestCheckBook is P11.1.
func TestCheckBook(t *testing.T) {
	for _, x := range badBooks {
		if e := match.CheckBook(x.b); e != x.e {
			t.Error(x.name, e)
		}
	}
	each(t, 1000, full, func(_ *rand.Rand, b api.MatchBook) {
		if e := match.CheckBook(b); e != api.OK {
			t.Error(e)
		}
	})
	for figures := -3; figures < 12; figures++ {
		for many := range 15 {
			want := api.OK
			if figures < 1 || figures > 6 || many > 10 {
				want = api.ErrMany
			}
			if e := match.CheckBook(book(figures, make([]int, 2*many)...)); e != want {
				t.Error(figures, many, e)
			}
		}
		for figure := -3; 1 <= figures && figures <= 6 && figure < 12; figure++ {
			want := api.ErrRange
			if 0 <= figure && figure < figures {
				want = api.OK
			}
			for _, b := range []api.MatchBook{book(figures, figure, 0), book(figures, 0, figure), book(figures, 0, 0, figure, figure), book(figures, 0, figure, 0, 0)} {
				if e := match.CheckBook(b); e != want {
					t.Error(b, e)
				}
			}
		}
	}
}

// TestCheckRow is P11.2: the examples, each error, and which one comes first.
func TestCheckRow(t *testing.T) {
	for i, x := range []struct {
		b          api.MatchBook
		row        []api.MatchPlace
		begin, end int
		e          api.Errno
	}{
		{bookA(), straight(0, 1, 3), 0, 3, api.OK},
		{bookA(), straight(0, 1, 2, 0), 0, 0, api.ErrHave},
		{bookA(), straight(0, 2), 0, 0, api.ErrMatch},
		{bookA(), straight(0, 4), 0, 0, api.ErrRange},
		{bookA(), row(1, 1, 0, 1, 2, 1, 3, 0), 2, 3, api.OK},
		{bookA(), nil, 0, 0, api.ErrMany},
		{bookA(), straight(3), 2, 3, api.OK},
		{bookA(), row(3, 1), 3, 2, api.OK},
		{bookA(), straight(0, 1, 2), 0, 0, api.OK},
		{bookA(), straight(1, 2, 0), 1, 1, api.OK},
		{bookA(), row(2, 1, 1, 1, 0, 1), 0, 0, api.OK},
		{bookA(), row(2, 1, 3, 0), 0, 3, api.OK},
		{bookA(), row(0, 0, 1, 1), 0, 0, api.ErrMatch},
		{bookA(), row(0, 1, 1, 0), 0, 0, api.ErrMatch},
		{bookA(), row(0, 0, 1, 0, 3, 1), 0, 0, api.ErrMatch}, // at the last place
		{bookA(), row(0, 1, 1, 0, 3, 0), 0, 0, api.ErrMatch}, // at the first ones
		{bookA(), row(0, 0, 0, 1), 0, 0, api.ErrHave},        // it matches
		{bookA(), row(0, 0, 0, 0), 0, 0, api.ErrHave},        // not that it does not match first
		{bookA(), row(0, 0, 2, 0, 3, 0, 0, 0), 0, 0, api.ErrHave},
		{bookA(), row(0, 0, 0, 0, 4, 0), 0, 0, api.ErrRange}, // not twice first
		{bookA(), row(0, 0, 0, 1, 1, 2), 0, 0, api.ErrRange},
		{bookA(), row(0, 0, 2, 0, 4, 0), 0, 0, api.ErrRange}, // not that it does not match first
		{bookA(), row(0, 2), 0, 0, api.ErrRange},
		{bookA(), row(0, -1), 0, 0, api.ErrRange},
		{bookA(), row(-1, 0), 0, 0, api.ErrRange},
		{bookA(), row(4, 1), 0, 0, api.ErrRange},
		{bookA(), row(4, 0, 0, 0), 0, 0, api.ErrRange},
		{bookA(), row(0, 0, 1, 2, 3, 0), 0, 0, api.ErrRange},
		{bookA(), row(math.MaxInt, 0), 0, 0, api.ErrRange},
		{bookA(), row(math.MinInt, 1), 0, 0, api.ErrRange},
		{bookA(), row(0, math.MaxInt), 0, 0, api.ErrRange},
		{bookA(), row(0, math.MinInt), 0, 0, api.ErrRange},
		{bookA(), make([]api.MatchPlace, 5000), 0, 0, api.ErrHave},
		{bookA(), longer(make([]api.MatchPlace, 5000), place(4, 0)), 0, 0, api.ErrRange},
		{book(3), nil, 0, 0, api.ErrMany},
		{book(3), straight(0), 0, 0, api.ErrRange}, // there is no sheet
		{book(3, 2, 2), straight(0), 2, 2, api.OK},
		{book(3, 2, 2), row(0, 1), 2, 2, api.OK},
		{book(3, 2, 2), row(0, 0, 0, 1), 0, 0, api.ErrHave},
		{book(3, 1, 2, 2, 2, 2, 0), row(0, 0, 1, 1, 2, 0), 1, 0, api.OK},
		{bookB(), straight(0, 1), 0, 0, api.ErrMatch},
		{bookC(), row(0, 0, 1, 0), 0, 0, api.OK},
		{bookC(), row(0, 1, 1, 1), 1, 1, api.OK},
		{book(6, slices.Repeat(of(0, 5, 5, 0), 5)...), straight(0, 1, 2, 3, 4, 5, 6, 7, 8, 9), 0, 0, api.OK},
		{book(6, slices.Repeat(of(0, 5, 5, 0), 5)...), straight(0, 1, 2, 3, 4, 5, 6, 7, 8, 9, 10), 0, 0, api.ErrRange},
		{book(6, slices.Repeat(of(0, 5, 5, 0), 5)...), straight(0, 1, 2, 3, 4, 5, 6, 7, 8, 9, 0), 0, 0, api.ErrHave},
		{book(6, slices.Repeat(of(0, 5), 10)...), straight(0, 1, 2, 3, 4, 5, 6, 7, 8, 9), 0, 0, api.ErrMatch},
	} {
		if begin, end, e := match.CheckRow(x.b, x.row); begin != x.begin || end != x.end || e != x.e {
			t.Error(i, begin, end, e)
		}
	}
}

// spoilt returns a row that may not be right any more.
func spoilt(r *rand.Rand, list []api.MatchPlace) []api.MatchPlace {
	out := slices.Clone(list)
	for range r.Intn(3) {
		switch i := r.Intn(len(out) + 1); {
		case r.Intn(3) == 0:
			out = slices.Insert(out, i, place(r.Intn(11), r.Intn(2)))
		case i == len(out):
			slices.Reverse(out)
		case r.Intn(2) == 0:
			out = slices.Delete(out, i, i+1)
		case r.Intn(2) == 0:
			out[i].Turned = r.Intn(5) - 1
		default:
			out[i].Sheet += 1 - 2*r.Intn(2)
		}
	}
	return out
}

// sheetsOf returns all sheets of a book.
func sheetsOf(b api.MatchBook) []int {
	var out []int
	for sheet := range b.Sheets {
		out = append(out, sheet)
	}
	return out
}

// TestCheckRowOfAll holds P11.2 against rows of all kinds.
func TestCheckRowOfAll(t *testing.T) {
	sorts := map[api.Errno]int{}
	each(t, 3000, full, func(r *rand.Rand, b api.MatchBook) {
		for range 5 {
			row := spoilt(r, randomRow(r, b, sheetsOf(b)))
			begin, end, want := checkedRow(b, row)
			sorts[want]++
			if x, y, e := match.CheckRow(b, row); x != begin || y != end || e != want {
				t.Error(row, x, y, e, begin, end, want)
			}
		}
	})
	for _, e := range []api.Errno{api.OK, api.ErrMany, api.ErrRange, api.ErrHave, api.ErrMatch} {
		if sorts[e] < 300 {
			t.Error("too few of a sort", sorts)
		}
	}
}

// TestCheckRows is P11.3 for CheckRows: the examples, each error, and which one comes first.
func TestCheckRows(t *testing.T) {
	for i, x := range []struct {
		b    api.MatchBook
		rows [][]api.MatchPlace
		many int
		e    api.Errno
	}{
		{bookA(), rows(straight(0, 1, 3), straight(2)), 2, api.OK},
		{bookA(), rows(straight(0, 1, 3)), 0, api.ErrEqual},
		{bookA(), rows(straight(0, 1, 3), straight(2, 0)), 0, api.ErrHave},
		{bookA(), rows(straight(0, 1, 3), row(2, 0, 0, 1)), 0, api.ErrMatch}, // as the chapter has it: 2 ends with 0, and 0t begins with 1
		{bookA(), rows(row(1, 1, 0, 1, 2, 1, 3, 0)), 1, api.OK},
		{bookA(), rows(straight(3), straight(2), row(1, 1), straight(0)), 4, api.OK},
		{bookA(), nil, 0, api.ErrEqual},
		{bookA(), rows(nil), 0, api.ErrMany},
		{bookA(), rows(straight(0, 1, 3), straight(2), nil), 0, api.ErrMany},
		{bookA(), rows(straight(0, 1, 3), nil, straight(2, 0, 4)), 0, api.ErrMany},
		{bookA(), rows(straight(0, 1, 3), straight(2, 0, 4), nil), 0, api.ErrRange},
		{bookA(), rows(straight(0, 2), straight(1, 4)), 0, api.ErrMatch}, // that of the first row
		{bookA(), rows(straight(1, 4), straight(0, 2)), 0, api.ErrRange},
		{bookA(), rows(straight(0, 1, 0), straight(9)), 0, api.ErrHave},
		{bookA(), rows(straight(0), straight(0), straight(0, 2)), 0, api.ErrMatch}, // not in two rows first
		{bookA(), rows(straight(0), straight(0), straight(4)), 0, api.ErrRange},
		{bookA(), rows(straight(0), row(0, 1)), 0, api.ErrHave}, // not that others are missing first
		{bookA(), rows(straight(0), straight(1), straight(2), straight(0)), 0, api.ErrHave},
		{bookA(), rows(straight(0), straight(1), straight(2), straight(3), straight(3)), 0, api.ErrHave},
		{bookA(), rows(straight(1), straight(2), straight(3)), 0, api.ErrEqual},
		{bookA(), rows(straight(0), straight(1), straight(2)), 0, api.ErrEqual},
		{bookA(), slices.Repeat(rows(straight(0)), 5000), 0, api.ErrHave},
		{bookA(), longer(slices.Repeat(rows(straight(0)), 5000), straight(4)), 0, api.ErrRange},
		{bookB(), rows(straight(0), straight(1), straight(2)), 3, api.OK},
		{bookB(), rows(straight(2), row(1, 1), row(0, 1)), 3, api.OK},
		{bookC(), rows(straight(0, 1)), 1, api.OK},
		{book(3), nil, 0, api.OK},
		{book(3), rows(nil), 0, api.ErrMany},
		{book(3), rows(straight(0)), 0, api.ErrRange},
		{book(3, 1, 1), nil, 0, api.ErrEqual},
		{book(3, 1, 1), rows(row(0, 1)), 1, api.OK},
	} {
		if many, e := match.CheckRows(x.b, x.rows); many != x.many || e != x.e {
			t.Error(i, many, e)
		}
	}
}

// TestCheckRowsOfAll holds P11.3 for CheckRows against rows of all kinds.
func TestCheckRowsOfAll(t *testing.T) {
	sorts := map[api.Errno]int{}
	each(t, 3000, full, func(r *rand.Rand, b api.MatchBook) {
		for range 5 {
			all := randomRows(r, b)
			for range r.Intn(3) {
				switch i := r.Intn(len(all) + 1); {
				case r.Intn(2) == 0:
					all = slices.Insert(all, i, randomRow(r, b, sheetsOf(b)))
				case i < len(all) && r.Intn(2) == 0:
					all = slices.Delete(all, i, i+1)
				case i < len(all):
					all[i] = spoilt(r, all[i])
				}
			}
			many, want := checkedRows(b, all)
			sorts[want]++
			if n, e := match.CheckRows(b, all); n != many || e != want {
				t.Error(all, n, e, many, want)
			}
		}
	})
	for _, e := range []api.Errno{api.OK, api.ErrMany, api.ErrRange, api.ErrHave, api.ErrMatch, api.ErrEqual} {
		if sorts[e] < 100 {
			t.Error("too few of a sort", sorts)
		}
	}
}

// TestCheckRing is P11.3 for CheckRing: the examples, each error, and which one comes first.
func TestCheckRing(t *testing.T) {
	for i, x := range []struct {
		b   api.MatchBook
		row []api.MatchPlace
		e   api.Errno
	}{
		{bookC(), straight(0, 1), api.OK},
		{bookC(), straight(0), api.ErrEqual},
		{bookA(), row(1, 1, 0, 1, 2, 1, 3, 0), api.ErrMatch},
		{bookC(), straight(1, 0), api.OK},
		{bookC(), row(1, 1, 0, 1), api.OK},
		{bookC(), nil, api.ErrMany},
		{bookC(), row(0, 0, 1, 1), api.ErrMatch}, // it is no row that matches
		{bookC(), row(0, 0, 0, 1), api.ErrHave},
		{bookC(), straight(0, 2), api.ErrRange},
		{bookC(), straight(0, 0, 2), api.ErrRange},
		{bookA(), straight(0, 1, 2), api.ErrEqual}, // a ring, but for a sheet
		{bookA(), straight(0, 1, 3), api.ErrEqual}, // not that it does not end so first
		{bookA(), straight(0, 2), api.ErrMatch},    // not that others are missing first
		{book(3, 0, 1, 1, 2, 2, 0), straight(1, 2, 0), api.OK},
		{book(3, 0, 1, 1, 2, 2, 0), row(2, 1, 1, 1, 0, 1), api.OK},
		{book(3, 0, 1, 1, 2, 2, 0, 2, 2), straight(0, 1, 2), api.ErrEqual},
		{book(3, 0, 1, 1, 2, 2, 0, 2, 2), row(0, 0, 1, 0, 3, 1, 2, 0), api.OK},
		{book(3, 2, 2), straight(0), api.OK},
		{book(3, 2, 2), row(0, 1), api.OK},
		{book(3, 2, 1), straight(0), api.ErrMatch},
		{book(3), nil, api.ErrMany},
		{book(3), straight(0), api.ErrRange},
	} {
		if e := match.CheckRing(x.b, x.row); e != x.e {
			t.Error(i, e)
		}
	}
}

// TestCheckRingOfAll holds P11.3 for CheckRing against rows of all kinds.
func TestCheckRingOfAll(t *testing.T) {
	sorts := map[api.Errno]int{}
	each(t, 4000, full, func(r *rand.Rand, b api.MatchBook) {
		ring := oneByHand(b)
		for range 5 {
			row := spoilt(r, ring)
			if r.Intn(3) == 0 {
				row = spoilt(r, randomRow(r, b, sheetsOf(b)))
			}
			want := checkedRing(b, row)
			sorts[want]++
			if e := match.CheckRing(b, row); e != want {
				t.Error(row, e, want)
			}
		}
	})
	for _, e := range []api.Errno{api.OK, api.ErrMany, api.ErrRange, api.ErrHave, api.ErrMatch, api.ErrEqual} {
		if sorts[e] < 300 {
			t.Error("too few of a sort", sorts)
		}
	}
}

// other is what functions are given besides a book.
type other struct {
	row      []api.MatchPlace
	rows     [][]api.MatchPlace
	from, to int
}

// functions call each function with a book, and report whether it returns zero values.
var functions = map[string]func(b api.MatchBook, o other) (bool, api.Errno){
	"CheckBook": func(b api.MatchBook, _ other) (bool, api.Errno) { return true, match.CheckBook(b) },
	"CheckRow": func(b api.MatchBook, o other) (bool, api.Errno) {
		begin, end, e := match.CheckRow(b, o.row)
		return begin == 0 && end == 0, e
	},
	"CheckRows": func(b api.MatchBook, o other) (bool, api.Errno) { return number(match.CheckRows(b, o.rows)) },
	"CheckRing": func(b api.MatchBook, o other) (bool, api.Errno) { return true, match.CheckRing(b, o.row) },
	"Odd":       func(b api.MatchBook, _ other) (bool, api.Errno) { return list(match.Odd(b)) },
	"Parts":     func(b api.MatchBook, _ other) (bool, api.Errno) { return list(match.Parts(b)) },
	"Fewest":    func(b api.MatchBook, _ other) (bool, api.Errno) { return number(match.Fewest(b)) },
	"Rows":      func(b api.MatchBook, _ other) (bool, api.Errno) { return list(match.Rows(b)) },
	"One":       func(b api.MatchBook, _ other) (bool, api.Errno) { return list(match.One(b)) },
	"Ring":      func(b api.MatchBook, _ other) (bool, api.Errno) { return list(match.Ring(b)) },
	"Missing":   func(b api.MatchBook, _ other) (bool, api.Errno) { return number(match.Missing(b)) },
	"Joins":     func(b api.MatchBook, _ other) (bool, api.Errno) { return list(match.Joins(b)) },
	"Chain":     func(b api.MatchBook, o other) (bool, api.Errno) { return list(match.Chain(b, o.from, o.to)) },
}

// list reports whether a list is empty, and number whether a number is 0.
func list[T any](x []T, e api.Errno) (bool, api.Errno) { return len(x) == 0, e }
func number(x int, e api.Errno) (bool, api.Errno)      { return x == 0, e }

// TestErrorsFirst: all functions return the error of CheckBook before their own ones, and zero values with it (R1, R2).
func TestErrorsFirst(t *testing.T) {
	for _, x := range badBooks {
		for call, f := range functions {
			for _, o := range []other{
				{},
				{straight(0), rows(straight(0)), 0, 1},
				{straight(0, 0), rows(nil), 1, 1},
				{row(0, 2), rows(row(-1, 0)), -1, 7},
				{make([]api.MatchPlace, 5000), make([][]api.MatchPlace, 5000), math.MaxInt, math.MinInt},
			} {
				if zero, e := f(x.b, o); !zero || e != x.e {
					t.Error(call, x.name, o, e)
				}
			}
		}
	}
}

// TestZeroValues: with an error of their own all functions return zero values (R2).
func TestZeroValues(t *testing.T) {
	for i, x := range []struct {
		call string
		b    api.MatchBook
		o    other
		e    api.Errno
	}{
		{"CheckRow", bookA(), other{}, api.ErrMany},
		{"CheckRow", bookA(), other{row: straight(1, 4)}, api.ErrRange},
		{"CheckRow", bookA(), other{row: straight(1, 2, 0, 1)}, api.ErrHave},
		{"CheckRow", bookA(), other{row: straight(1, 3, 2)}, api.ErrMatch},
		{"CheckRows", bookA(), other{rows: rows(straight(1), straight(3, 1))}, api.ErrMatch},
		{"CheckRows", bookA(), other{rows: rows(straight(1), straight(1))}, api.ErrHave},
		{"CheckRows", bookA(), other{rows: rows(straight(1), straight(2))}, api.ErrEqual},
		{"One", book(3), other{}, api.ErrNone},
		{"One", bookB(), other{}, api.ErrMatch},
		{"Ring", book(3), other{}, api.ErrNone},
		{"Ring", bookA(), other{}, api.ErrMatch},
		{"Ring", bookB(), other{}, api.ErrMatch},
		{"Chain", bookA(), other{from: 1, to: 1}, api.ErrArg},
		{"Chain", bookB(), other{from: 0, to: 2}, api.ErrNone},
	} {
		if zero, e := functions[x.call](x.b, x.o); !zero || e != x.e {
			t.Error(i, x.call, e)
		}
	}
}
