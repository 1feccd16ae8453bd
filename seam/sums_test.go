package seam_test

import (
	"math"
	"math/rand"
	"slices"
	"testing"

	"crossband/api"
	"crossband/seam"
)

// TestSums is P5.6: the examples, ordinary layers, and the error.
func TestSums(t *testing.T) {
	for i, x := range []struct {
		p          api.SeamPanel
		layer      int
		sums, sure []int64
		e          api.Errno
	}{
		{panelA(), 0, longs(2, 3, 5, 7, 8), nil, api.OK},
		{panelA(), 1, longs(5), longs(5), api.OK},
		{panelA(), 2, nil, nil, api.ErrArg},
		{panelA(), 3, nil, nil, api.ErrArg},
		{panelA(), 4, nil, nil, api.ErrArg},
		{panelA(), -1, nil, nil, api.ErrArg},
		{panelA(), math.MaxInt, nil, nil, api.ErrArg},
		{panelA(), math.MinInt, nil, nil, api.ErrArg},
		{panelB(), 2, longs(4, 6), nil, api.OK},
		{panelB(), 3, nil, nil, api.ErrArg},
		{widest(), 3, longs(100, 200, 300, 400), longs(100, 200, 300, 400), api.OK},
		{widest(), 4, nil, nil, api.ErrArg},
		{widest(), -1, nil, nil, api.ErrArg},
		{panel(longs(10), longs(4, 6)), 0, nil, nil, api.OK},
		{panel(longs(10), longs(1, 1, 8)), 1, longs(1, 2, 8, 9), nil, api.OK},
		{panel(longs(1), longs(1)), 1, nil, nil, api.OK},
		{panel(longs(2), longs(1, 1)), 1, longs(1), longs(1), api.OK},
		{panel(longs(31), longs(16, 2, 4, 8, 1)), 1, longs(1, 2, 3, 4, 5, 6, 7, 8, 9, 10, 11, 12, 13, 14, 15, 16, 17, 18, 19, 20, 21, 22, 23, 24, 25, 26, 27, 28, 29, 30), nil, api.OK},
		{panel(longs(8), longs(2, 4, 2)), 1, longs(2, 4, 6), nil, api.OK},
		{panel(longs(9), longs(2, 2, 2, 2, 1)), 1, longs(1, 2, 3, 4, 5, 6, 7, 8), nil, api.OK},
	} {
		if list, e := seam.Sums(x.p, x.layer); !slices.Equal(list, x.sums) || e != x.e {
			t.Error(i, list, e)
		}
		if list, e := seam.Sure(x.p, x.layer); !slices.Equal(list, x.sure) || e != x.e {
			t.Error(i, list, e)
		}
	}
}

// TestSumsOfAll holds P5.6 against the seams in all orders, number by number; and sums against the widths of some strips, but not all.
func TestSumsOfAll(t *testing.T) {
	none, some := 0, 0
	each(t, 60, func(_ *rand.Rand, p api.SeamPanel) {
		for i, layer := range p.Layers {
			orders := permutations(len(layer))
			var any, every []int64
			for at := range width(p) + 1 {
				if slices.ContainsFunc(orders, func(order []int) bool { return isSeam(layer, order, at) }) {
					any = append(any, at)
				}
				if !slices.ContainsFunc(orders, func(order []int) bool { return !isSeam(layer, order, at) }) {
					every = append(every, at)
				}
			}
			if list := sums(t, p, i); !slices.Equal(list, any) || !slices.Equal(list, widthsOfSome(layer)) {
				t.Error("sums", i, list, any)
			}
			if list := sure(t, p, i); !slices.Equal(list, every) {
				t.Error("sure", i, list, every)
			}
			if len(every) == 0 {
				none++
			} else {
				some++
			}
		}
	})
	if none < 50 || some < 20 {
		t.Error("too few of a sort", none, some)
	}
}

// widthsOfSome returns how wide some strips of a layer, but not all, can be together, increasing.
func widthsOfSome(layer []int64) []int64 {
	var out []int64
	for mask := 1; mask < 1<<len(layer)-1; mask++ {
		sum := int64(0)
		for i, n := range layer {
			sum += n * int64(mask>>i&1)
		}
		out = append(out, sum)
	}
	slices.Sort(out)
	return slices.Compact(out)
}

// TestSeamsAreSums is P5.9: seams are sums, sure seams are seams in any orders, and sums come two by two.
func TestSeamsAreSums(t *testing.T) {
	each(t, 500, func(r *rand.Rand, p api.SeamPanel) {
		for range 5 {
			for i, list := range seams(t, p, randomOrders(r, p)) {
				all, certain := sums(t, p, i), sure(t, p, i)
				if !slices.Equal(both(list, all), list) {
					t.Error("no sums", i, list, all)
				}
				if !slices.Equal(both(certain, list), certain) {
					t.Error("not sure", i, list, certain)
				}
				for _, at := range all {
					if !slices.Contains(all, width(p)-at) {
						t.Error("not from the other side", i, at, all)
					}
				}
			}
		}
	})
}
