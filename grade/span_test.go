package grade_test

import (
	"math"
	"math/rand"
	"slices"
	"testing"

	"crossband/api"
	"crossband/grade"
)

// TestSpan is P9.7: the examples, each error, and which one comes first.
func TestSpan(t *testing.T) {
	for i, x := range []struct {
		s      api.GradeShop
		more   []int64
		lo, hi int64
		e      api.Errno
	}{
		{shopC(), longs(0, 0, 2), 46, 53, api.OK},
		{shopC(), longs(0, 0, 48), 0, 0, api.ErrRange},
		{shopC(), longs(0, 0, 1), 46, 53, api.OK},
		{shopC(), longs(0, 1, 0), 49, 53, api.OK},
		{shopC(), longs(46, 0, 0), 53, 53, api.OK},
		{shopC(), longs(46, 46, 47), 46, 53, api.OK},
		{shopC(), longs(47, 46, 47), 0, 0, api.ErrRange},
		{shopC(), longs(46, 47, 47), 0, 0, api.ErrRange},
		{shopC(), longs(46, 46, 48), 0, 0, api.ErrRange},
		{shopC(), longs(0, 0, 0), 53, 53, api.OK},
		{shopC(), longs(0, -1, 0), 0, 0, api.ErrRange},
		{shopC(), longs(-1, 0, 0), 0, 0, api.ErrRange},
		{shopC(), longs(0, 0, -1), 0, 0, api.ErrRange},
		{shopC(), longs(0, 0), 0, 0, api.ErrEqual},
		{shopC(), nil, 0, 0, api.ErrEqual},
		{shopC(), longs(0, 0, 0, 0), 0, 0, api.ErrEqual},
		{shopC(), longs(-1, 51), 0, 0, api.ErrEqual}, // not out of range first
		{shopC(), make([]int64, 5000), 0, 0, api.ErrEqual},
		{shopC(), longs(math.MaxInt64, 0, 0), 0, 0, api.ErrRange},
		{shopC(), longs(0, 0, math.MaxInt64), 0, 0, api.ErrRange},
		{shopC(), longs(0, math.MinInt64, 0), 0, 0, api.ErrRange},
		{shopB(), longs(0, 0, 48), 0, 0, api.ErrGrade}, // though all can be filled with more
		{shopB(), longs(0, 0, 50), 0, 0, api.ErrRange},
		{shopB(), longs(0, 0), 0, 0, api.ErrEqual},
		{shopB(), longs(0, 0, 0), 0, 0, api.ErrGrade},
		{shopA(), longs(9, 9, 9), 46, 46, api.OK},
		{example(10, 0, 0), longs(0, 2, 3), 61, 90, api.OK},
		{example(10, 0, 0), longs(40, 50, 50), 46, 90, api.OK},
		{shop(longs(50), longs(100), 0, 20), longs(0), 2000, 2000, api.OK},
		{shop(longs(50), longs(100), 0, 20), longs(1), 0, 0, api.ErrRange},
		{shop(longs(0), longs(100)), longs(50), 0, 0, api.OK},
	} {
		if lo, hi, e := grade.Span(x.s, x.more); lo != x.lo || hi != x.hi || e != x.e {
			t.Error(i, lo, hi, e)
		}
	}
	for n := int64(-5); n < 70; n++ {
		for g, there := range shopC().Stock {
			list, want := longs(0, 0, 0), api.OK
			list[g] = n
			if n < 0 || n+there > 50 {
				want = api.ErrRange
			}
			if _, _, e := grade.Span(shopC(), list); e != want {
				t.Error(g, n, e)
			}
		}
	}
}

// between calls f with all shops that have so many more sheets, or fewer more.
func between(s api.GradeShop, most []int64, f func(api.GradeShop)) {
	g := len(s.Stock) - len(most)
	if len(most) == 0 {
		f(s)
		return
	}
	for n := range most[0] + 1 {
		between(more(s, g, n), most[1:], f)
	}
}

// TestSpanOfAll holds P9.7 against the least costs of all these shops.
func TestSpanOfAll(t *testing.T) {
	wide := 0
	eachFilled(t, 1000, full, most, func(r *rand.Rand, s api.GradeShop) {
		list := randomNumbers(r, len(s.Stock), 4)
		for g, there := range s.Stock {
			list[g] = min(list[g], api.MaxGradeStock-there)
		}
		lo, hi := int64(1<<40), int64(0)
		between(s, list, func(s api.GradeShop) {
			n := costOf(s, spentByHand(s))
			lo, hi = min(lo, n), max(hi, n)
		})
		if m, n, e := grade.Span(s, list); m != lo || n != hi || e != api.OK {
			t.Error(list, m, n, e, lo, hi)
		}
		if lo < hi {
			wide++
		}
	})
	if wide < 100 {
		t.Error("too few", wide)
	}
}

// TestRefuse is P9.8: the examples, and which list comes first.
func TestRefuse(t *testing.T) {
	for i, x := range []struct {
		s    api.GradeShop
		list []int
	}{
		{shopB(), indexes(0)},
		{shopA(), nil},
		{shopC(), nil},
		{example(3, 2, 9), indexes(0)},
		{example(1, 9, 9), indexes(0)},
		{example(0, 0, 9), indexes(0, 1)},
		{example(0, 0, 0), indexes(0, 1, 2)},
		{example(2, 1, 5), indexes(1)}, // the first one alone does not help
		{example(2, 4, 0), indexes(1)},
		{shop(longs(0), longs(0)), nil},
		{shop(longs(0), longs(0), 0, 0), nil},
		{shop(longs(0), longs(0), 0, 0, 0, 1), indexes(1)}, // one that asks for nothing is filled
		{shop(longs(5, 0), longs(1, 1), 1, 4, 1, 1, 0, 3), indexes(0)},
		{shop(longs(5, 0), longs(1, 1), 1, 1, 1, 4, 0, 3), indexes(1)},
		{shop(longs(2, 2), longs(1, 1), 0, 2, 0, 2, 1, 2, 1, 2), indexes(0, 1)},
		{shop(longs(3), longs(1), 0, 2, 0, 2, 0, 1), indexes(0)},
		{shop(longs(2), longs(1), 0, 1, 0, 1, 0, 2), indexes(2)}, // one is enough, though it comes later
		{shop(longs(2), longs(1), 0, 1, 0, 2, 0, 2, 0, 1), indexes(1, 2)},
		{shop(longs(1), longs(1), 0, 1, 0, 2, 0, 2, 0, 1), indexes(0, 1, 2)},
		{shop(longs(20), longs(1), slices.Repeat(longs(0, 20), 8)...), indexes(0, 1, 2, 3, 4, 5, 6)},
		{shop(longs(19), longs(1), slices.Repeat(longs(0, 20), 8)...), indexes(0, 1, 2, 3, 4, 5, 6, 7)},
	} {
		if list := told(t, grade.Refuse, x.s); !slices.Equal(list, x.list) {
			t.Error(i, list)
		}
	}
}

// TestRefuseOfAll holds P9.8 against all lists of orders.
func TestRefuseOfAll(t *testing.T) {
	sorts := map[int]int{}
	each(t, 3000, full, most, func(_ *rand.Rand, s api.GradeShop) {
		want := refusedByHand(s)
		sorts[len(want)]++
		if list := told(t, grade.Refuse, s); !slices.Equal(list, want) {
			t.Error(list, want)
		}
	})
	for many := range 5 {
		if sorts[many] < 20 {
			t.Error("too few of a sort", sorts)
		}
	}
}
