package grade_test

import (
	"math/rand"
	"slices"
	"testing"

	"crossband/api"
	"crossband/grade"
)

// TestSpent is P9.4: the examples, and what is seen at once.
func TestSpent(t *testing.T) {
	for i, x := range []struct {
		s     api.GradeShop
		spent []int64
		cost  int64
	}{
		{shopA(), longs(2, 4, 4), 46},
		{shopC(), longs(3, 4, 3), 53},
		{example(2, 4, 4), longs(2, 4, 4), 46},
		{example(10, 0, 0), longs(10, 0, 0), 90},
		{example(50, 50, 50), longs(2, 4, 4), 46},
		{example(50, 50, 0), longs(2, 8, 0), 58},
		{example(2, 8, 0), longs(2, 8, 0), 58},
		{example(3, 7, 0), longs(3, 7, 0), 62},
		{example(6, 0, 4), longs(6, 0, 4), 62},
		{example(7, 0, 4), longs(6, 0, 4), 62},
		{shop(longs(0), longs(0)), longs(0), 0},
		{shop(longs(50), longs(100)), longs(0), 0},
		{shop(longs(0), longs(7), 0, 0), longs(0), 0},
		{shop(longs(4), longs(7), 0, 1, 0, 2), longs(3), 21},
		{shop(longs(5, 5, 5), longs(9, 5, 2)), longs(0, 0, 0), 0},
		{shop(longs(5, 0, 0), longs(9, 5, 2), 2, 3), longs(3, 0, 0), 27},
		{shop(longs(5, 5, 5), longs(9, 5, 2), 2, 3), longs(0, 0, 3), 6},
		{shop(longs(5, 1, 5), longs(9, 5, 2), 1, 3, 0, 1), longs(3, 1, 0), 32},
		{shop(longs(4, 1, 1, 1), longs(8, 4, 2, 1), 3, 4, 1, 2), longs(3, 1, 1, 1), 31},
		{shop(longs(5, 5), longs(3, 3), 1, 4), longs(0, 4), 12},          // the cost is the same for any fill
		{shop(longs(5, 5, 5), longs(0, 0, 0), 2, 7), longs(0, 2, 5), 0},  // though nothing costs anything
		{shop(longs(5, 5, 5), longs(9, 4, 4), 2, 7), longs(0, 2, 5), 28}, // of the last two grades it is
		{shop(longs(5, 5, 5), longs(9, 9, 4), 1, 7), longs(2, 5, 0), 63}, // of the first two
		{shop(longs(50, 50), longs(100, 99), slices.Repeat(longs(1, 20), 5)...), longs(50, 50), 9950},
	} {
		if list := spent(t, x.s); !slices.Equal(list, x.spent) {
			t.Error(i, list)
		}
		if n := least(t, x.s); n != x.cost {
			t.Error(i, n)
		}
		fill := told(t, grade.Fill, x.s)
		if n, e := faultOfFill(x.s, fill); n != x.cost || e != api.OK {
			t.Error(i, fill, n, e)
		}
	}
}

// TestAllFills holds P9.4 against all right fills of small shops.
func TestAllFills(t *testing.T) {
	same, several, none := 0, 0, 0
	each(t, 3000, few, small, func(_ *rand.Rand, s api.GradeShop) {
		all := allFills(s)
		if len(all) == 0 {
			none++
			if list, e := grade.Spent(s); len(list) != 0 || e != api.ErrGrade {
				t.Error("spent", list, e)
			}
			if n, e := grade.Least(s); n != 0 || e != api.ErrGrade {
				t.Error("least", n, e)
			}
			if fill, e := grade.Fill(s); len(fill) != 0 || e != api.ErrGrade {
				t.Error("fill", fill, e)
			}
			return
		}
		var first []int64
		cost := int64(1 << 40)
		for _, fill := range all {
			list := spentOf(s, fill)
			n := costOf(s, list)
			if n == cost && !slices.Equal(list, first) {
				same++
			}
			if n > cost {
				several++
			}
			if n < cost || n == cost && slices.Compare(list, first) < 0 {
				cost, first = n, list
			}
		}
		if list := spent(t, s); !slices.Equal(list, first) {
			t.Error("spent", list, first)
		}
		if n := least(t, s); n != cost {
			t.Error("least", n, cost)
		}
		fill := told(t, grade.Fill, s)
		if n, e := faultOfFill(s, fill); n != cost || e != api.OK {
			t.Error("fill", fill, n, e, cost)
		}
	})
	if same < 500 || several < 500 || none < 200 {
		t.Error("too few of a sort", same, several, none)
	}
}

// TestSums holds P9.4 against sums, up to the limits.
func TestSums(t *testing.T) {
	better, none := 0, 0
	each(t, 5000, full, most, func(_ *rand.Rand, s api.GradeShop) {
		if !canFill(s) {
			none++
			for _, call := range []string{"Spent", "Least", "Fill"} {
				if zero, e := functions[call](s, other{}); !zero || e != api.ErrGrade {
					t.Error(call, e)
				}
			}
			return
		}
		want := spentByHand(s)
		if list := spent(t, s); !slices.Equal(list, want) {
			t.Error("spent", list, want)
		}
		if n := least(t, s); n != costOf(s, want) {
			t.Error("least", n, want)
		}
		fill := told(t, grade.Fill, s)
		if n, e := faultOfFill(s, fill); n != costOf(s, want) || e != api.OK {
			t.Error("fill", fill, n, e)
		}
		if n, e := grade.CheckFill(s, fill); n != costOf(s, want) || e != api.OK {
			t.Error("its check", fill, n, e)
		}
		for order, o := range s.Orders {
			if fill[order][o.Grade] < o.Many {
				better++
			}
		}
	})
	if better < 1000 || none < 1000 {
		t.Error("too few of a sort", better, none)
	}
}
