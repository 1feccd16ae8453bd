package match_test

import (
	"math"
	"math/rand"
	"reflect"
	"slices"
	"testing"

	"crossband/api"
	"crossband/match"
)

// callAll calls all functions, and lists what they return.
func callAll(b api.MatchBook, o other) []any {
	var out []any
	add := func(x any, e api.Errno) { out = append(out, x, e) }
	add(nil, match.CheckBook(b))
	begin, end, e := match.CheckRow(b, o.row)
	add([...]int{begin, end}, e)
	add(first(match.CheckRows(b, o.rows)))
	add(nil, match.CheckRing(b, o.row))
	add(first(match.Odd(b)))
	add(first(match.Parts(b)))
	add(first(match.Fewest(b)))
	add(first(match.Rows(b)))
	add(first(match.One(b)))
	add(first(match.Ring(b)))
	add(first(match.Missing(b)))
	add(first(match.Joins(b)))
	add(first(match.Chain(b, o.from, o.to)))
	return out
}

// otherOf returns what functions can be given besides a book.
func otherOf(r *rand.Rand, b api.MatchBook) other {
	o := other{oneByHand(b), randomRows(r, b), r.Intn(b.Figures), r.Intn(b.Figures)}
	if r.Intn(2) == 0 {
		o.row = spoilt(r, o.row)
	}
	return o
}

// copiedRows returns the same rows in other memory.
func copiedRows(list [][]api.MatchPlace) [][]api.MatchPlace {
	var out [][]api.MatchPlace
	for _, row := range list {
		out = append(out, slices.Clone(row))
	}
	return out
}

// TestAgain: equal calls return equal results (R9, R10), whatever is called in between, and no argument is changed (R4).
func TestAgain(t *testing.T) {
	var before [][]any
	for round := range 4 {
		r := rand.New(rand.NewSource(9))
		for i, b := range goodBooks {
			o := otherOf(r, b)
			given, own := copied(b), other{slices.Clone(o.row), copiedRows(o.rows), o.from, o.to}
			got := callAll(given, own)
			if !reflect.DeepEqual(given, copied(b)) || !reflect.DeepEqual(own, o) {
				t.Fatal("changed", given, own)
			}
			if round == 0 {
				before = append(before, got)
			} else if !reflect.DeepEqual(got, before[i]) {
				t.Fatal(got, before[i])
			}
		}
	}
}

// TestSpare: room behind the elements of an argument is not written to (R4).
func TestSpare(t *testing.T) {
	r := rand.New(rand.NewSource(8))
	sheet, odd := api.MatchSheet{Left: 77, Right: 77}, place(77, 77)
	for _, b := range goodBooks {
		o := otherOf(r, b)
		sheets, line, all := longer(b.Sheets, sheet), longer(o.row, odd), longer(copiedRows(o.rows), row(77, 77))
		for i, row := range o.rows {
			all[i] = longer(row, odd)[:len(row)]
		}
		callAll(withSheets(b, sheets[:len(b.Sheets)]), other{line[:len(o.row)], all[:len(o.rows)], o.from, o.to})
		if !slices.Equal(sheets, longer(b.Sheets, sheet)) || !slices.Equal(line, longer(o.row, odd)) || !equal(all, longer(o.rows, row(77, 77))) {
			t.Fatal(sheets, line, all)
		}
		for i, row := range o.rows {
			if got := all[i][:len(row)+1]; !slices.Equal(got, longer(row, odd)) {
				t.Fatal(got)
			}
		}
	}
}

// overwrite changes all elements of a list, and what is in the room behind them.
func overwrite[T any](list []T, x T) {
	list = list[:cap(list)]
	for i := range list {
		list[i] = x
	}
}

// apart reports whether no list of a list of lists shares memory with one behind it.
func apart[T comparable](list [][]T, x T) bool {
	var own [][]T
	for _, one := range list {
		own = append(own, slices.Clone(one))
	}
	for i, one := range list {
		overwrite(one, x)
		if !equal(list[i+1:], own[i+1:]) {
			return false
		}
	}
	return true
}

// TestOwnMemory: what one call returns can be changed, or grown, without a trace in an argument, in what another one returns, or in another list of it (R4).
func TestOwnMemory(t *testing.T) {
	for _, b := range goodBooks {
		given, o := copied(b), other{to: 1}
		before := callAll(given, o)
		parts, all := told(t, match.Parts, given), told(t, match.Rows, given)
		if !apart(parts, 77) || !apart(all, place(77, 77)) {
			t.Fatal(parts, all)
		}
		overwrite(parts, of(77))
		overwrite(all, row(77, 77))
		overwrite(told(t, match.Odd, given), 77)
		overwrite(told(t, match.Joins, given), 77)
		one, _ := match.One(given)
		ring, _ := match.Ring(given)
		chain, _ := match.Chain(given, 0, 1)
		for _, row := range rows(one, ring, chain) {
			overwrite(row, place(77, 77))
		}
		if !reflect.DeepEqual(given, copied(b)) {
			t.Fatal("changed", given, b)
		}
		if after := callAll(given, o); !reflect.DeepEqual(before, after) {
			t.Fatal(before, after)
		}
	}
}

// TestEmpty: a nil list and an empty one are the same (R3).
func TestEmpty(t *testing.T) {
	for _, b := range goodBooks {
		empty := b
		if len(b.Sheets) == 0 {
			b.Sheets, empty.Sheets = nil, []api.MatchSheet{}
		}
		if !reflect.DeepEqual(callAll(empty, other{row: []api.MatchPlace{}, rows: [][]api.MatchPlace{}}), callAll(b, other{})) {
			t.Error(b)
		}
		if !reflect.DeepEqual(callAll(b, other{row: []api.MatchPlace{}, rows: rows([]api.MatchPlace{})}), callAll(b, other{rows: rows(nil)})) {
			t.Error(b)
		}
	}
}

// TestAnyNumber: no call panics, whatever the numbers are (P1, R5).
func TestAnyNumber(t *testing.T) {
	numbers := of(math.MinInt, math.MinInt+1, -1<<32, -16, -2, -1, 0, 1, 2, 3, 4, 5, 6, 7, 8, 9, 10, 11, 63, 64, 65, 1<<32, 1<<62, math.MaxInt-1, math.MaxInt)
	for _, m := range numbers {
		for _, n := range numbers {
			o := other{row(m, n, n, m), rows(row(n, 0), row(0, m)), m, n}
			for _, b := range []api.MatchBook{
				bookA(),
				bookB(),
				book(m),
				book(m, n, n),
				book(m, 0, n, n, 0),
				book(6, m, n, n, m),
				book(n, slices.Repeat(of(0, m), 10)...),
			} {
				callAll(b, o)
				callAll(b, other{row(0, n), rows(row(m, n), nil), n, 0})
			}
		}
	}
}
