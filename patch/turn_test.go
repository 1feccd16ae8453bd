package patch_test

import (
	"math"
	"math/rand"
	"testing"

	"crossband/api"
	"crossband/patch"
)

// TestTurn is P4.7 for Turn: the examples, ordinary sheets, and the error.
func TestTurn(t *testing.T) {
	for _, x := range []struct {
		s     api.PatchSheet
		times int
		want  api.PatchSheet
		e     api.Errno
	}{
		{sheetS(), 0, sheetS(), api.OK},
		{sheetS(), 1, sheetT(), api.OK},
		{sheetS(), 2, sheet(4, "o..o ..#. o..o"), api.OK},
		{sheetS(), 3, sheet(4, "o.o ... .#. o.o"), api.OK},
		{sheet(7, "o.# ..."), 1, sheet(7, ".o .. .#"), api.OK},
		{sheet(7, "o.# ..."), 2, sheet(7, "... #.o"), api.OK},
		{sheet(7, "o.# ..."), 3, sheet(7, "#. .. o."), api.OK},
		{sheet(36, "o"), 3, sheet(36, "o"), api.OK},
		{sheet(1, "o#...."), 1, sheet(1, "o # . . . ."), api.OK},
		{sheet(1, "o#...."), 3, sheet(1, ". . . . # o"), api.OK},
		{sheetS(), 4, api.PatchSheet{}, api.ErrArg},
		{sheetS(), -1, api.PatchSheet{}, api.ErrArg},
		{sheetS(), math.MaxInt, api.PatchSheet{}, api.ErrArg},
		{sheetS(), math.MinInt, api.PatchSheet{}, api.ErrArg},
	} {
		if got, e := patch.Turn(x.s, x.times); !equalSheets(got, x.want) || e != x.e {
			t.Error(x.s, x.times, got, e)
		}
	}
	each(t, 500, func(_ *rand.Rand, s api.PatchSheet) {
		want := s
		for times := range 4 {
			if got := turn(t, s, times); !equalSheets(got, want) {
				t.Error(times, got, want)
			}
			want = turnedByHand(want)
		}
	})
}

// TestSame is P4.7 for Same: the examples, ordinary sheets, and the error.
func TestSame(t *testing.T) {
	for _, x := range []struct {
		name string
		s, t api.PatchSheet
		n    int
		e    api.Errno
	}{
		{"S and T", sheetS(), sheetT(), 1, api.OK},
		{"T and S", sheetT(), sheetS(), 3, api.OK},
		{"another Most", sheetS(), withMost(sheetS(), 3), 0, api.ErrEqual},
		{"another Most, turned", sheetT(), withMost(sheetS(), 3), 0, api.ErrEqual},
		{"itself", sheetS(), sheetS(), 0, api.OK},
		{"twice", sheetS(), sheet(4, "o..o ..#. o..o"), 2, api.OK},
		{"the same in two ways", sheet(2, "o. .o"), sheet(2, ".o o."), 1, api.OK},
		{"the same in all ways", sheet(2, "oo oo"), sheet(2, "oo oo"), 0, api.OK},
		{"a row and a column", sheet(2, "o."), sheet(2, "o ."), 1, api.OK},
		{"a row and a column, from below", sheet(2, "o."), sheet(2, ". o"), 3, api.OK},
		{"in a mirror", sheet(2, "o.. ##."), sheet(2, "..o .##"), 0, api.ErrEqual},
		{"another cell", sheet(2, "o#."), sheet(2, "o.."), 0, api.ErrEqual},
		{"a knot and figure", sheet(2, "o"), sheet(2, "#"), 0, api.ErrEqual},
		{"as many cells", sheet(2, "...."), sheet(2, ".. .."), 0, api.ErrEqual},
		{"one more row", sheet(2, ".. .."), sheet(2, ".. .. .."), 0, api.ErrEqual},
	} {
		if n, e := patch.Same(x.s, x.t); n != x.n || e != x.e {
			t.Error(x.name, n, e)
		}
	}
}

// TestSameOfAll holds P4.7 against sheets that are turned by hand, and others.
func TestSameOfAll(t *testing.T) {
	sorts := map[int]int{}
	each(t, 1000, func(r *rand.Rand, s api.PatchSheet) {
		other := s
		for range r.Intn(4) {
			other = turnedByHand(other)
		}
		if r.Intn(4) == 0 {
			other = randomOfSize(r, len(s.Rows), len(s.Rows[0]), 3)
			other.Most = s.Most
		}
		want, e := 0, api.ErrEqual
		now := s
		for times := range 4 {
			if e != api.OK && equalSheets(now, other) {
				want, e = times, api.OK
			}
			now = turnedByHand(now)
		}
		sorts[want+100*int(e)]++
		if n, f := patch.Same(s, other); n != want || f != e {
			t.Error(other, n, f)
		}
	})
	for _, sort := range indexes(0, 1, 2, 3, 100*int(api.ErrEqual)) {
		if sorts[sort] < 50 {
			t.Error("too few of a sort", sort, sorts[sort])
		}
	}
}

// TestTurned is P4.12: a turned sheet needs what it needed, and turned four times it is what it was.
func TestTurned(t *testing.T) {
	each(t, 500, func(_ *rand.Rand, s api.PatchSheet) {
		few, cells, single, whole, largest := fewest(t, s), cellsFor(t, s), len(alone(t, s)), len(parts(t, s)), largestCells(t, s)
		now := s
		for range 4 {
			now = turn(t, now, 1)
			if fewest(t, now) != few || cellsFor(t, now) != cells {
				t.Error("needs", now, few, cells)
			}
			if len(alone(t, now)) != single || len(parts(t, now)) != whole || largestCells(t, now) != largest {
				t.Error("has", now, single, whole, largest)
			}
		}
		if !equalSheets(now, s) {
			t.Error("turned four times", now)
		}
	})
}
