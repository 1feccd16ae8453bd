package seam_test

import (
	"math"
	"math/rand"
	"testing"

	"crossband/api"
	"crossband/seam"
)

// TestFar is P5.7: the examples, ordinary panels, and the errors.
func TestFar(t *testing.T) {
	for i, x := range []struct {
		p api.SeamPanel
		n int64
	}{
		{panelA(), 2},
		{panelB(), 0},
		{widest(), 0},
		{panel(longs(1), longs(1)), 1},
		{panel(longs(10), longs(4, 6)), 10},
		{panel(longs(3, 7), longs(3, 7)), 4},
		{panel(longs(3, 7), longs(7, 3), longs(3, 7)), 4},
		{panel(longs(3, 7), longs(5, 5), longs(3, 7)), 2},
		{panel(longs(3, 7), longs(10), longs(3, 7)), 10},
		{panel(longs(2, 2, 2), longs(3, 3)), 1},
		{panel(longs(1, 99), longs(99, 1)), 98},
		{panel(longs(1, 99), longs(99, 1), longs(50, 50)), 49},
		{panel(longs(50, 50), longs(1, 99), longs(99, 1)), 49},
	} {
		if n, e := seam.Far(x.p); n != x.n || e != api.OK {
			t.Error(i, n, e)
		}
		if orders, e := seam.Apart(x.p, x.n+1); len(orders) != 0 || e != api.ErrSeam {
			t.Error(i, orders, e)
		}
		if orders := toldOf(t, seam.Apart, x.p, x.n); distance(t, x.p, orders) != x.n {
			t.Error(i, orders)
		}
	}
	for _, x := range []struct {
		p        api.SeamPanel
		distance int64
		e        api.Errno
	}{
		{panelA(), 3, api.ErrSeam},
		{panelA(), -1, api.ErrRange},
		{panelA(), math.MaxInt64, api.ErrSeam},
		{panelA(), math.MinInt64, api.ErrRange},
		{panelB(), 1, api.ErrSeam},
		{panelB(), -1, api.ErrRange},
		{panel(longs(10), longs(4, 6)), 11, api.ErrSeam},
	} {
		if orders, e := seam.Apart(x.p, x.distance); len(orders) != 0 || e != x.e {
			t.Error(x.p, x.distance, orders, e)
		}
	}
}

// TestApart is P5.7 and P5.10: just up to Far there are orders that are as far apart, and it is at least 1 just if there are orders without meetings.
func TestApart(t *testing.T) {
	sorts := map[bool]int{}
	each(t, 150, func(r *rand.Rand, p api.SeamPanel) {
		most := far(t, p)
		for _, n := range longs(0, 1, most/2, most-1, most) {
			if n < 0 || n > most {
				continue
			}
			orders := toldOf(t, seam.Apart, p, n)
			if _, apart := bothByHand(p, orders); apart < n || apart > most {
				t.Error("apart", n, most, orders, apart)
			}
		}
		for _, n := range longs(most+1, most+2, width(p)+1) {
			if orders, e := seam.Apart(p, n); len(orders) != 0 || e != api.ErrSeam {
				t.Error("too far", n, orders, e)
			}
		}
		for range 100 {
			if orders := randomOrders(r, p); distance(t, p, orders) > most {
				t.Error("farther", orders, most)
			}
		}
		if few := fewest(t, p); (most >= 1) != (few == 0) {
			t.Error("without meetings", most, few)
		}
		sorts[most >= 1]++
	})
	if sorts[true] < 50 || sorts[false] < 20 {
		t.Error("too few of a sort", sorts)
	}
}
