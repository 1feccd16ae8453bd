package match_test

import (
	"math/rand"
	"slices"
	"testing"

	"crossband/api"
	"crossband/match"
)

// known are books with what is told of them.
var known = []struct {
	b             api.MatchBook
	odd           []int
	parts         [][]int
	rows, missing int
	one           []api.MatchPlace // none: there is no such row
	ring          bool
	joins         []int
}{
	{bookA(), of(2, 3), lists(of(0, 1, 2, 3)), 1, 1, row(1, 1, 0, 1, 2, 1, 3, 0), false, of(3)},
	{bookB(), of(0, 1, 2, 3), lists(of(0), of(1), of(2)), 3, 3, nil, false, of(0, 1)},
	{bookC(), nil, lists(of(0, 1)), 1, 0, straight(0, 1), true, nil},
	{book(1), nil, nil, 0, 0, nil, false, nil},
	{book(6), nil, nil, 0, 0, nil, false, nil},
	{book(1, 0, 0), nil, lists(of(0)), 1, 0, straight(0), true, nil},
	{book(6, 5, 5), nil, lists(of(0)), 1, 0, straight(0), true, nil},
	{book(6, 5, 0), of(0, 5), lists(of(0)), 1, 1, straight(0), false, of(0)},
	{book(6, 5, 5, 0, 0), nil, lists(of(0), of(1)), 2, 2, nil, false, nil},
	{book(2, 0, 1, 0, 1), nil, lists(of(0, 1)), 1, 0, row(0, 0, 1, 1), true, nil},
	{book(2, 0, 1, 0, 1, 0, 1), of(0, 1), lists(of(0, 1, 2)), 1, 1, row(0, 0, 1, 1, 2, 0), false, nil},
	{book(2, 0, 1, 0, 0, 1, 1), of(0, 1), lists(of(0, 1, 2)), 1, 1, row(1, 0, 0, 0, 2, 0), false, of(0)},
	{book(2, 0, 0, 0, 0, 0, 0), nil, lists(of(0, 1, 2)), 1, 0, straight(0, 1, 2), true, nil},
	{book(3, 1, 1, 0, 1), of(0, 1), lists(of(0, 1)), 1, 1, row(0, 0, 1, 1), false, of(1)},
	{book(5, 0, 1, 0, 2, 0, 3, 0, 4), of(1, 2, 3, 4), lists(of(0, 1, 2, 3)), 2, 2, nil, false, of(0, 1, 2, 3)},
	{book(4, 0, 1, 0, 2, 0, 3), of(0, 1, 2, 3), lists(of(0, 1, 2)), 2, 2, nil, false, of(0, 1, 2)},
	{book(5, 0, 1, 1, 2, 2, 0, 0, 3, 3, 4, 4, 0), nil, lists(of(0, 1, 2, 3, 4, 5)), 1, 0, straight(0, 1, 2, 3, 4, 5), true, nil},
	{book(6, 0, 1, 1, 2, 2, 0, 3, 4, 4, 5, 5, 3), nil, lists(of(0, 1, 2), of(3, 4, 5)), 2, 2, nil, false, nil},
	{book(6, 0, 1, 1, 2, 2, 0, 3, 4, 4, 5, 5, 3, 0, 3), of(0, 3), lists(of(0, 1, 2, 3, 4, 5, 6)), 1, 1, row(0, 0, 1, 0, 2, 0, 6, 0, 3, 0, 4, 0, 5, 0), false, of(6)},
	{book(6, 0, 1, 2, 3, 4, 5), of(0, 1, 2, 3, 4, 5), lists(of(0), of(1), of(2)), 3, 3, nil, false, of(0, 1, 2)},
	{book(6, 0, 1, 2, 3, 4, 5, 1, 2, 3, 4), of(0, 5), lists(of(0, 1, 2, 3, 4)), 1, 1, straight(0, 3, 1, 4, 2), false, of(0, 1, 2, 3, 4)},
	{book(6, 3, 4, 1, 2, 0, 1, 4, 5, 2, 3), of(0, 5), lists(of(0, 1, 2, 3, 4)), 1, 1, row(2, 0, 1, 0, 4, 0, 0, 0, 3, 0), false, of(0, 1, 2, 3, 4)},
	{book(6, 0, 1, 2, 3, 1, 0, 3, 2), nil, lists(of(0, 2), of(1, 3)), 2, 2, nil, false, nil},
	{book(6, 5, 4, 0, 1, 4, 3, 1, 2, 3, 5), of(0, 2), lists(of(0, 2, 4), of(1, 3)), 2, 2, nil, false, of(1, 3)},
	{book(4, 0, 1, 0, 2, 0, 3, 1, 2, 1, 3, 2, 3), of(0, 1, 2, 3), lists(of(0, 1, 2, 3, 4, 5)), 2, 2, nil, false, nil},
	{book(6, 0, 3, 0, 4, 0, 5, 1, 3, 1, 4, 1, 5, 2, 3, 2, 4, 2, 5), of(0, 1, 2, 3, 4, 5), lists(of(0, 1, 2, 3, 4, 5, 6, 7, 8)), 3, 3, nil, false, nil},
	{book(4, 0, 1, 1, 2, 2, 3, 3, 0, 0, 2), of(0, 2), lists(of(0, 1, 2, 3, 4)), 1, 1, row(0, 0, 1, 0, 2, 0, 3, 0, 4, 0), false, nil},
	{book(6, slices.Repeat(of(5, 0), 10)...), nil, lists(of(0, 1, 2, 3, 4, 5, 6, 7, 8, 9)), 1, 0, row(0, 0, 1, 1, 2, 0, 3, 1, 4, 0, 5, 1, 6, 0, 7, 1, 8, 0, 9, 1), true, nil},
	{book(4, 2, 0, 1, 2, 0, 1), nil, lists(of(0, 1, 2)), 1, 0, row(0, 0, 2, 0, 1, 0), true, nil},
	{book(4, 0, 2, 1, 2, 0, 1), nil, lists(of(0, 1, 2)), 1, 0, row(0, 0, 1, 1, 2, 1), true, nil}, // the other way round
	{book(4, 0, 1, 0, 2, 2, 1, 0, 1), of(0, 1), lists(of(0, 1, 2, 3)), 1, 1, row(0, 0, 2, 1, 1, 1, 3, 0), false, nil},
	{book(4, 1, 0, 0, 2, 2, 1, 0, 1), of(0, 1), lists(of(0, 1, 2, 3)), 1, 1, row(0, 0, 1, 0, 2, 0, 3, 1), false, nil},
	{book(6, 1, 2, 0, 1, 2, 3, 0, 0), of(0, 3), lists(of(0, 1, 2, 3)), 1, 1, row(2, 1, 0, 1, 1, 1, 3, 0), false, of(0, 1, 2)},
}

// TestOdd is P11.4 for Odd.
func TestOdd(t *testing.T) {
	for i, x := range known {
		if odd := told(t, match.Odd, x.b); !slices.Equal(odd, x.odd) {
			t.Error(i, odd)
		}
	}
	eachOfAll(t, 3000, func(b api.MatchBook) {
		if odd := told(t, match.Odd, b); !slices.Equal(odd, oddByHand(b)) {
			t.Error(odd)
		}
	})
}

// TestParts is P11.4 for Parts.
func TestParts(t *testing.T) {
	for i, x := range known {
		if parts := told(t, match.Parts, x.b); !equal(parts, x.parts) {
			t.Error(i, parts)
		}
	}
	sorts := map[int]int{}
	eachOfAll(t, 3000, func(b api.MatchBook) {
		want := partsByHand(b)
		sorts[len(want)]++
		if parts := told(t, match.Parts, b); !equal(parts, want) {
			t.Error(parts, want)
		}
	})
	for many := range 4 {
		if sorts[many] < 10 {
			t.Error("too few of a sort", sorts)
		}
	}
}

// TestFewest is P11.5 for Fewest, and P11.7: both are held against all orders of the sheets.
func TestFewest(t *testing.T) {
	for i, x := range known {
		if few := fewest(t, x.b); few != x.rows {
			t.Error(i, few)
		}
		if missing := told(t, match.Missing, x.b); missing != x.missing {
			t.Error(i, missing)
		}
	}
	sorts := map[[2]int]int{}
	eachOfAll(t, 2000, func(b api.MatchBook) {
		few, missing := fewestByHand(b)
		sorts[[2]int{few, missing}]++
		if n, m := fewest(t, b), told(t, match.Missing, b); n != few || m != missing {
			t.Error(n, m, few, missing)
		}
	})
	for _, sort := range [][2]int{{0, 0}, {1, 0}, {1, 1}, {2, 2}, {3, 3}} {
		if sorts[sort] < 30 {
			t.Error("too few of a sort", sorts)
		}
	}
}

// eachMore calls f with all lists of so many sheets, in any order of them, behind those of a book, and reports whether f does for one.
func eachMore(b api.MatchBook, many int, f func(b api.MatchBook) bool) bool {
	if many == 0 {
		return f(b)
	}
	for left := range b.Figures {
		for right := range left + 1 {
			if eachMore(withMore(b, left, right), many-1, f) {
				return true
			}
		}
	}
	return false
}

// TestMissing is P11.7, held against all sheets that can be added.
func TestMissing(t *testing.T) {
	hasRing := func(b api.MatchBook) bool {
		row := oneByHand(b)
		return row != nil && checkedRing(b, row) == api.OK // if there is a ring each row of all sheets is one
	}
	hold := func(b api.MatchBook) {
		missing := told(t, match.Missing, b)
		for many := range missing {
			if len(b.Sheets) > 0 && eachMore(b, many, hasRing) {
				t.Error("fewer", missing, many)
			}
		}
		if len(b.Sheets) > 0 && !eachMore(b, missing, hasRing) {
			t.Error("more", missing)
		}
	}
	for sheets := range 4 {
		eachSmall(t, 3, sheets, hold)
	}
	each(t, 200, 5, func(_ *rand.Rand, b api.MatchBook) {
		if told(t, match.Missing, b) < 3 {
			hold(b)
		}
	})
}

// TestRows is P11.5 for Rows.
func TestRows(t *testing.T) {
	hold := func(b api.MatchBook, few int) {
		all := told(t, match.Rows, b)
		many, e := checkedRows(b, all)
		if n, f := match.CheckRows(b, all); n != many || f != e {
			t.Error(all, n, f, many, e)
		}
		if len(all) != few || many != few || e != api.OK {
			t.Error(all, many, e, few)
		}
	}
	for _, x := range known {
		hold(x.b, x.rows)
	}
	eachOfAll(t, 2000, func(b api.MatchBook) {
		few, _ := fewestByHand(b)
		hold(b, few)
	})
}

// TestOne is P11.6 for One.
func TestOne(t *testing.T) {
	hold := func(b api.MatchBook, want []api.MatchPlace) {
		fault := api.OK
		switch {
		case len(b.Sheets) == 0:
			fault = api.ErrNone
		case want == nil:
			fault = api.ErrMatch
		}
		if one, e := match.One(b); !slices.Equal(one, want) || e != fault {
			t.Error(one, e, want, fault)
		}
	}
	for _, x := range known {
		hold(x.b, x.one)
	}
	sorts := map[bool]int{}
	eachOfAll(t, 4000, func(b api.MatchBook) {
		want := oneByHand(b)
		sorts[want == nil]++
		hold(b, want)
	})
	if sorts[true] < 1000 || sorts[false] < 1000 {
		t.Error("too few of a sort", sorts)
	}
}

// TestRing is P11.6 for Ring.
func TestRing(t *testing.T) {
	hold := func(b api.MatchBook, hasRing bool) {
		fault := api.OK
		switch {
		case len(b.Sheets) == 0:
			fault = api.ErrNone
		case !hasRing:
			fault = api.ErrMatch
		}
		ring, e := match.Ring(b)
		if e != fault || e != api.OK && len(ring) > 0 {
			t.Error(ring, e, fault)
		}
		if e == api.OK && (checkedRing(b, ring) != api.OK || match.CheckRing(b, ring) != api.OK) {
			t.Error(ring)
		}
	}
	for _, x := range known {
		hold(x.b, x.ring)
	}
	sorts := map[bool]int{}
	eachOfAll(t, 4000, func(b api.MatchBook) {
		_, missing := fewestByHand(b)
		hasRing := len(b.Sheets) > 0 && missing == 0
		sorts[hasRing]++
		hold(b, hasRing)
	})
	if sorts[true] < 500 || sorts[false] < 500 {
		t.Error("too few of a sort", sorts)
	}
}
