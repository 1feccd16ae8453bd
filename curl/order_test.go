package curl_test

import (
	"math"
	"math/rand"
	"slices"
	"testing"

	"crossband/api"
	"crossband/curl"
)

// TestMoments is P7.2: the examples, and orders where both moments are seen at once.
func TestMoments(t *testing.T) {
	seven := pulling(1, 2, 4, 8, 16, 32, 64)
	for i, x := range []struct {
		p             api.CurlPanel
		order         []int
		damp          int64
		along, across int64
		e             api.Errno
		curl          int64
	}{
		{panelA(), indexes(1, 0, 2), 4, 9, 0, api.OK, 9},
		{panelA(), indexes(0, 1, 2), 4, 0, 0, api.OK, 0},
		{panelA(), indexes(1, 0, 2), 5, 0, 0, api.ErrRange, 9},
		{panelE(), indexes(1, 0, 2, 3, 4), 0, -4, 2, api.OK, 4},
		{panelA(), indexes(1, 0, 2), 0, 5, 0, api.OK, 9},
		{panelA(), indexes(2, 0, 1), 0, -5, 0, api.OK, 9},
		{panelA(), indexes(1, 0, 2), -1, 0, 0, api.ErrRange, 9},
		{panelA(), indexes(1, 0, 2), math.MinInt64, 0, 0, api.ErrRange, 9},
		{panelA(), indexes(1, 0, 2), math.MaxInt64, 0, 0, api.ErrRange, 9},
		{panelC(), indexes(0, 2, 1), 0, 2, 0, api.OK, 2},
		{panelC(), indexes(0, 2, 1), 1, 0, 0, api.ErrRange, 2},
		{panel(3, 6, 5, 2, 0, 0, 1, 3), indexes(0, 1, 2), 2, 0, 0, api.ErrRange, 2},
		{panel(3, 6, 5, 2, 0, 0, 1, 3), indexes(0, 1, 2), 3, -1, 0, api.OK, 2},
		{panel(3, 6, 5, 2, 0, 0, 1, 3), indexes(0, 1, 2), 4, 0, 0, api.OK, 2},
		{panel(3, 6, 5, 2, 0, 0, 1, 3), indexes(0, 1, 2), 6, 2, 0, api.OK, 2},
		{panel(3, 6, 5, 2, 0, 0, 1, 3), indexes(0, 1, 2), 7, 0, 0, api.ErrRange, 2},
		{panel(2, 6, 10, -3, 0, 0, 0, 0), indexes(0, 1, 2), 6, 8, 0, api.OK, 8},
		{seven, indexes(0, 1, 2, 3, 4, 5, 6), 9, -3 - 4 + 16 + 3*64, -2*2 + 2*32, api.OK, 201},
		{seven, indexes(6, 5, 4, 3, 2, 1, 0), 9, 3 + 4 - 16 - 3*64, 2*2 - 2*32, api.OK, 201},
		{seven, indexes(0, 5, 1, 2, 3, 6, 4), 0, -3 - 2 + 8 + 3*16, -2*32 + 2*64, api.OK, 64},
		{panel(0, 50, 0, -10, 0, -10, 0, 0, 0, 0, 0, 0, 100, 10, 100, 10), indexes(0, 2, 1, 3, 5, 4, 6), 50, 3*600 + 3*500 + 600 + 500, 0, api.OK, 4400},
		{panel(0, 50, 0, -10, 0, -10, 0, 0, 0, 0, 0, 0, 100, 10, 100, 10), indexes(2, 0, 3, 4, 1, 5, 6), 50, -500 + 3*600, 2*600 + 2*500, api.OK, 2200},
	} {
		along, across, e := curl.Moments(x.p, x.order, x.damp)
		if along != x.along || across != x.across || e != x.e {
			t.Error(i, along, across, e)
		}
		if n := curlOf(t, x.p, x.order); n != x.curl {
			t.Error(i, n)
		}
	}
}

// TestMomentsByHand holds P7.2 against pairs of layers, and each damp.
func TestMomentsByHand(t *testing.T) {
	inside := 0
	each(t, 1000, api.MaxCurlSheets, func(r *rand.Rand, p api.CurlPanel) {
		order := r.Perm(len(p.Sheets))
		for damp := int64(-1); damp <= api.MaxCurlDamp+1; damp++ {
			along, across, e := curl.Moments(p, order, damp)
			if damp < p.Damp.Lo || damp > p.Damp.Hi {
				if along != 0 || across != 0 || e != api.ErrRange {
					t.Error(order, damp, along, across, e)
				}
				continue
			}
			inside++
			if m, n := momentsByHand(p, order, damp); along != m || across != n || e != api.OK {
				t.Error(order, damp, along, across, e, m, n)
			}
		}
		if n, want := curlOf(t, p, order), curlByHand(p, order); n != want {
			t.Error(order, n, want)
		}
	})
	if inside < 5000 {
		t.Error("too few", inside)
	}
}

// TestOrder is P7.3: the examples, and panels where the best order is seen at once.
func TestOrder(t *testing.T) {
	for i, x := range []struct {
		p     api.CurlPanel
		least int64
		order []int
		flats int
	}{
		{panelA(), 0, indexes(0, 1, 2), 2},
		{panelC(), 2, indexes(0, 2, 1), 0},
		{panelE(), 0, indexes(0, 1, 2, 3, 4), 8},
		{panel(0, 9, 5, 0, 5, 1, 5, 2), 9, indexes(0, 2, 1), 0},
		{panel(0, 0, 5, 0, 5, 1, 5, 2), 0, indexes(0, 1, 2), 6},
		{panel(0, 4, 5, 0, 10, 1, 10, 1), 0, indexes(1, 0, 2), 2},
		{panel(0, 4, 10, 1, 10, 1, 5, 0), 0, indexes(0, 2, 1), 2},
		{panel(6, 6, 9, 2, 0, 0, 3, 3), 0, indexes(0, 1, 2), 2},
		{panel(5, 6, 9, 2, 0, 0, 3, 3), 1, indexes(0, 1, 2), 0},
		{panel(6, 7, 9, 2, 0, 0, 3, 3), 1, indexes(0, 1, 2), 0},
		{pulling(0, 3, 5), 2, indexes(1, 0, 2), 0},
		{pulling(5, 3, 0), 2, indexes(0, 2, 1), 0},
		{pulling(4, 4, 4), 0, indexes(0, 1, 2), 6},
		{pulling(4, 4, 4, 4, 4), 0, indexes(0, 1, 2, 3, 4), 120},
		{pulling(4, 4, 4, 4, 4, 4, 4), 0, indexes(0, 1, 2, 3, 4, 5, 6), 5040},
		{pulling(1, 2, 3, 4, 3, 2, 1), 0, indexes(0, 1, 2, 3, 4, 5, 6), 64},
	} {
		if n := least(t, x.p); n != x.least {
			t.Error(i, n)
		}
		if list := told(t, curl.Order, x.p); !slices.Equal(list, x.order) {
			t.Error(i, list)
		}
		if n := flats(t, x.p); n != x.flats {
			t.Error(i, n)
		}
	}
}

// TestOrderOfAll holds P7.3 against the curls of all orders.
func TestOrderOfAll(t *testing.T) {
	all := allOrders()
	sorts := map[bool]int{}
	each(t, 150, api.MaxCurlSheets, func(_ *rand.Rand, p api.CurlPanel) {
		var first []int
		best, flat := int64(math.MaxInt64), 0
		for _, order := range all[len(p.Sheets)] {
			n := curlByHand(p, order)
			if n < best {
				best, first = n, order
			}
			if n == 0 {
				flat++
			}
		}
		sorts[flat > 0]++
		if n := least(t, p); n != best {
			t.Error("least", n, best)
		}
		if list := told(t, curl.Order, p); !slices.Equal(list, first) {
			t.Error("order", list, first)
		}
		if n := flats(t, p); n != flat {
			t.Error("flats", n, flat)
		}
	})
	if sorts[true] < 30 || sorts[false] < 30 {
		t.Error("too few of a sort", sorts)
	}
}
