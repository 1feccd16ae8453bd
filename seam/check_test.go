package seam_test

import (
	"math"
	"math/rand"
	"slices"
	"testing"

	"crossband/api"
	"crossband/seam"
)

// badPanels are panels that are not valid, with their errors; of several errors the one named first (R1).
var badPanels = []struct {
	name string
	p    api.SeamPanel
	e    api.Errno
}{
	{"nothing", api.SeamPanel{}, api.ErrMany},
	{"no layers", panel([][]int64{}...), api.ErrMany},
	{"one layer", panel(longs(5)), api.ErrMany},
	{"one layer of no width", panel(longs(0)), api.ErrMany},
	{"five layers", panel(longs(1), longs(1), longs(1), longs(1), longs(1)), api.ErrMany},
	{"far too many layers", panel(slices.Repeat([][]int64{{1}}, 5000)...), api.ErrMany},
	{"five layers, then others", panel(longs(0), longs(101), longs(1), longs(2), nil), api.ErrMany},
	{"a first layer without strips", panel(nil, longs(1)), api.ErrMany},
	{"a last layer without strips", panel(longs(1), longs()), api.ErrMany},
	{"no strips at all", panel(nil, nil), api.ErrMany},
	{"six strips", panel(longs(1, 1, 1, 1, 1, 1), longs(6)), api.ErrMany},
	{"six strips in the last layer", panel(longs(6), longs(6), longs(6), longs(1, 1, 1, 1, 1, 1)), api.ErrMany},
	{"far too many strips", panel(longs(5), slices.Repeat(longs(1), 5000)), api.ErrMany},
	{"no width, then no strips", panel(longs(0), nil), api.ErrMany},
	{"not as wide, then six strips", panel(longs(4), longs(5), longs(1, 1, 1, 1, 1, 1)), api.ErrMany},
	{"too wide, then no strips", panel(longs(101), longs(101), longs()), api.ErrMany},
	{"no width", panel(longs(0, 5), longs(5)), api.ErrRange},
	{"a width below 0", panel(longs(5, -1), longs(4)), api.ErrRange},
	{"too wide", panel(longs(101), longs(50, 51)), api.ErrRange},
	{"a last strip too wide", panel(longs(50, 51), longs(101)), api.ErrRange},
	{"all widths 0", panel(longs(0), longs(0)), api.ErrRange},
	{"the last strip of all", panel(longs(5), longs(5), longs(5), longs(1, 1, 1, 2, 0)), api.ErrRange},
	{"the greatest width", panel(longs(math.MaxInt64), longs(math.MaxInt64)), api.ErrRange},
	{"the least width", panel(longs(math.MinInt64), longs(math.MinInt64)), api.ErrRange},
	{"widths whose sum is too great", panel(longs(math.MaxInt64, math.MaxInt64), longs(-2)), api.ErrRange},
	{"not as wide, then no width", panel(longs(5), longs(4), longs(0, 5)), api.ErrRange},
	{"not as wide, too wide", panel(longs(5), longs(101)), api.ErrRange},
	{"a wider one", panel(longs(5), longs(6)), api.ErrEqual},
	{"a narrower one", panel(longs(3, 3), longs(5)), api.ErrEqual},
	{"a wider last one", panel(longs(6), longs(5, 1), longs(7)), api.ErrEqual},
	{"a wider one in the middle", panel(longs(6), longs(5, 2), longs(6), longs(6)), api.ErrEqual},
	{"each of another width", panel(longs(1), longs(2), longs(3), longs(4)), api.ErrEqual},
	{"one unit too wide", panel(longs(100, 100, 100, 100, 100), longs(100, 100, 100, 100, 99)), api.ErrEqual},
}

// TestCheckPanel is P5.1.
func TestCheckPanel(t *testing.T) {
	for _, x := range badPanels {
		if e := seam.CheckPanel(x.p); e != x.e {
			t.Error(x.name, e)
		}
	}
	each(t, 1000, func(_ *rand.Rand, p api.SeamPanel) {
		if e := seam.CheckPanel(p); e != api.OK {
			t.Error(e)
		}
	})
	for n := int64(-3); n < 105; n++ {
		want := api.OK
		if n < 1 || n > 100 {
			want = api.ErrRange
		}
		if e := seam.CheckPanel(panel(longs(n), longs(n))); e != want {
			t.Error(n, e)
		}
		if e := seam.CheckPanel(panel(longs(1, 2, n), longs(n, 1, 2))); e != want {
			t.Error(n, e)
		}
	}
}

// TestCheckPanelOfAll: how many layers and strips there can be (P5.1).
func TestCheckPanelOfAll(t *testing.T) {
	for layers := range 8 {
		for strips := range 8 {
			want := api.ErrMany
			if 2 <= layers && layers <= 4 && 1 <= strips && strips <= 5 {
				want = api.OK
			}
			p := panel(slices.Repeat([][]int64{slices.Repeat(longs(7), strips)}, layers)...)
			if e := seam.CheckPanel(p); e != want {
				t.Error(layers, strips, e)
			}
		}
	}
}

// ordersFunctions calls the functions that orders are given to, and reports whether they return zero values.
var ordersFunctions = map[string]func(api.SeamPanel, [][]int) (bool, api.Errno){
	"CheckOrders": func(p api.SeamPanel, orders [][]int) (bool, api.Errno) {
		n, e := seam.CheckOrders(p, orders)
		return n == 0, e
	},
	"Seams": func(p api.SeamPanel, orders [][]int) (bool, api.Errno) {
		list, e := seam.Seams(p, orders)
		return len(list) == 0, e
	},
	"Through": func(p api.SeamPanel, orders [][]int) (bool, api.Errno) {
		list, e := seam.Through(p, orders)
		return len(list) == 0, e
	},
	"Distance": func(p api.SeamPanel, orders [][]int) (bool, api.Errno) {
		n, e := seam.Distance(p, orders)
		return n == 0, e
	},
}

// numberFunctions does the same for those that a number is given to.
var numberFunctions = map[string]func(api.SeamPanel, int64) (bool, api.Errno){
	"Pair": func(p api.SeamPanel, x int64) (bool, api.Errno) {
		n, e := seam.Pair(p, int(x))
		return n == 0, e
	},
	"Sums": func(p api.SeamPanel, x int64) (bool, api.Errno) {
		list, e := seam.Sums(p, int(x))
		return len(list) == 0, e
	},
	"Sure": func(p api.SeamPanel, x int64) (bool, api.Errno) {
		list, e := seam.Sure(p, int(x))
		return len(list) == 0, e
	},
	"Apart": func(p api.SeamPanel, x int64) (bool, api.Errno) {
		list, e := seam.Apart(p, x)
		return len(list) == 0, e
	},
}

// TestErrorsFirst: all functions return the error of CheckPanel before their own ones, and zero values with it (R2).
func TestErrorsFirst(t *testing.T) {
	for _, x := range badPanels {
		for name, f := range ordersFunctions {
			for _, orders := range [][][]int{nil, lists(indexes(0), indexes(0)), lists(indexes(0, 0)), make([][]int, len(x.p.Layers)), make([][]int, 5000)} {
				if zero, e := f(x.p, orders); !zero || e != x.e {
					t.Error(name, x.name, e)
				}
			}
		}
		for name, f := range numberFunctions {
			for _, n := range longs(0, 1, -1, 4, 5000, math.MinInt64, math.MaxInt64) {
				if zero, e := f(x.p, n); !zero || e != x.e {
					t.Error(name, x.name, e)
				}
			}
		}
		if n, e := seam.Fewest(x.p); n != 0 || e != x.e {
			t.Error("Fewest", x.name, n, e)
		}
		if list, e := seam.Orders(x.p); len(list) != 0 || e != x.e {
			t.Error("Orders", x.name, list, e)
		}
		if n, e := seam.Far(x.p); n != 0 || e != x.e {
			t.Error("Far", x.name, n, e)
		}
	}
}

// TestErrorsOfOrders is what P5.2 and P5.3 say of orders that are none, with the errors in their order.
func TestErrorsOfOrders(t *testing.T) {
	for _, x := range []struct {
		name   string
		p      api.SeamPanel
		orders [][]int
		e      api.Errno
	}{
		{"one list of two", panelA(), lists(indexes(0, 1, 2)), api.ErrEqual},
		{"none", panelA(), nil, api.ErrEqual},
		{"one too many", panelA(), lists(indexes(0, 1, 2), indexes(0, 1), indexes(0)), api.ErrEqual},
		{"an empty one too many", panelA(), lists(indexes(0, 1, 2), indexes(0, 1), nil), api.ErrEqual},
		{"two of three", panelB(), lists(indexes(0, 1), indexes(0, 1)), api.ErrEqual},
		{"far too many", panelA(), make([][]int, 5000), api.ErrEqual},
		{"one that is no order", panelA(), lists(indexes(0, 0, 0)), api.ErrEqual},
		{"three, none of them an order", panelA(), lists(nil, nil, nil), api.ErrEqual},
		{"a strip twice", panelA(), lists(indexes(0, 1, 1), indexes(0, 1)), api.ErrRule},
		{"all strips the same", panelA(), lists(indexes(2, 2, 2), indexes(0, 1)), api.ErrRule},
		{"a strip twice in the last layer", panelA(), lists(indexes(0, 1, 2), indexes(1, 1)), api.ErrRule},
		{"a strip is left out", panelA(), lists(indexes(0, 1), indexes(0, 1)), api.ErrRule},
		{"a strip twice behind all", panelA(), lists(indexes(0, 1, 2, 0), indexes(0, 1)), api.ErrRule},
		{"another strip behind all", panelA(), lists(indexes(0, 1, 2, 3), indexes(0, 1)), api.ErrRule},
		{"no such strip", panelA(), lists(indexes(0, 1, 3), indexes(0, 1)), api.ErrRule},
		{"a strip below 0", panelA(), lists(indexes(0, 1, -1), indexes(0, 1)), api.ErrRule},
		{"a strip of another layer", panelA(), lists(indexes(0, 1, 2), indexes(0, 2)), api.ErrRule},
		{"an order of another layer", panelA(), lists(indexes(0, 1), indexes(0, 1, 2)), api.ErrRule},
		{"an empty list", panelA(), lists(nil, indexes(0, 1)), api.ErrRule},
		{"empty lists", panelB(), lists(nil, indexes(), nil), api.ErrRule},
		{"an empty list for one strip", panel(longs(5), longs(5)), lists(indexes(0), nil), api.ErrRule},
		{"strips from 1 on", panelA(), lists(indexes(1, 2, 3), indexes(1, 2)), api.ErrRule},
		{"the greatest number", panelA(), lists(indexes(0, 1, math.MaxInt), indexes(0, 1)), api.ErrRule},
		{"the least number", panelA(), lists(indexes(0, 1, 2), indexes(math.MinInt, 1)), api.ErrRule},
		{"far too many strips", panelA(), lists(indexes(0, 1, 2), make([]int, 5000)), api.ErrRule},
		{"the last of four", widest(), lists(indexes(0, 1, 2, 3, 4), indexes(4, 3, 2, 1, 0), indexes(0, 1, 2, 3, 4), indexes(0, 1, 2, 3, 3)), api.ErrRule},
	} {
		for name, f := range ordersFunctions {
			if zero, e := f(x.p, x.orders); !zero || e != x.e {
				t.Error(name, x.name, e)
			}
		}
	}
}

// TestOrdersOfAll holds which lists are orders against all orders of a layer (P5.2, P5.3).
func TestOrdersOfAll(t *testing.T) {
	for strips := 1; strips <= 3; strips++ {
		right := permutations(strips)
		p := panel(longs(9), randomLayer(rand.New(rand.NewSource(2)), strips, 9))
		all := [][]int{nil}
		for i := 0; i < len(all); i++ {
			want := api.ErrRule
			if slices.ContainsFunc(right, func(order []int) bool { return slices.Equal(order, all[i]) }) {
				want = api.OK
			}
			for name, f := range ordersFunctions {
				if _, e := f(p, lists(indexes(0), all[i])); e != want {
					t.Error(name, p, all[i], e)
				}
			}
			for n := -1; n <= strips && len(all[i]) <= strips; n++ {
				all = append(all, append(slices.Clone(all[i]), n))
			}
		}
	}
}
