package seam_test

import (
	"math"
	"math/rand"
	"slices"
	"testing"

	"crossband/api"
	"crossband/seam"
)

// TestCheckOrders is P5.2 for CheckOrders: the examples, and ordinary orders.
func TestCheckOrders(t *testing.T) {
	for i, x := range []struct {
		p      api.SeamPanel
		orders [][]int
		n      int
	}{
		{panelA(), lists(indexes(0, 1, 2), indexes(0, 1)), 1},
		{panelA(), lists(indexes(0, 2, 1), indexes(1, 0)), 0},
		{panelA(), lists(indexes(1, 2, 0), indexes(0, 1)), 0},
		{panelA(), lists(indexes(2, 0, 1), indexes(0, 1)), 1},
		{panelB(), lists(indexes(0, 1), indexes(0, 1), indexes(1, 0)), 1},
		{panelB(), lists(indexes(1, 0), indexes(0, 1), indexes(0, 1)), 1},
		{panel(longs(5, 5), longs(4, 6), longs(5, 5)), lists(indexes(0, 1), indexes(0, 1), indexes(0, 1)), 0},
		{panel(longs(5, 5), longs(10), longs(5, 5)), lists(indexes(0, 1), indexes(0), indexes(0, 1)), 0},
		{panel(longs(4, 6), longs(6, 4)), lists(indexes(0, 1), indexes(1, 0)), 1},
		{panel(longs(4, 6), longs(6, 4)), lists(indexes(0, 1), indexes(0, 1)), 0},
		{panel(longs(1), longs(1)), lists(indexes(0), indexes(0)), 0},
		{panel(longs(1, 1), longs(1, 1), longs(1, 1), longs(1, 1)), lists(indexes(0, 1), indexes(1, 0), indexes(0, 1), indexes(1, 0)), 3},
		{panel(longs(3, 7), longs(3, 7), longs(3, 7)), lists(indexes(0, 1), indexes(0, 1), indexes(1, 0)), 1},
		{panel(longs(3, 7), longs(3, 7), longs(3, 7)), lists(indexes(1, 0), indexes(0, 1), indexes(0, 1)), 1},
		{widest(), lists(indexes(0, 1, 2, 3, 4), indexes(4, 3, 2, 1, 0), indexes(1, 0, 2, 4, 3), indexes(2, 0, 4, 1, 3)), 12},
		{panel(longs(1, 2, 4, 8, 16), longs(15, 16)), lists(indexes(3, 1, 0, 2, 4), indexes(0, 1)), 1},
		{panel(longs(1, 2, 4, 8, 16), longs(15, 16)), lists(indexes(3, 1, 0, 4, 2), indexes(0, 1)), 0},
	} {
		if n, e := seam.CheckOrders(x.p, x.orders); n != x.n || e != api.OK {
			t.Error(i, n, e)
		}
	}
}

// TestSeams is P5.2 for Seams: the examples, and ordinary orders.
func TestSeams(t *testing.T) {
	for i, x := range []struct {
		p      api.SeamPanel
		orders [][]int
		want   [][]int64
	}{
		{panelA(), lists(indexes(0, 1, 2), indexes(0, 1)), [][]int64{{2, 5}, {5}}},
		{panelA(), lists(indexes(2, 0, 1), indexes(1, 0)), [][]int64{{5, 7}, {5}}},
		{panelB(), lists(indexes(1, 0), indexes(0, 1), indexes(1, 0)), [][]int64{{5}, {5}, {6}}},
		{panel(longs(1), longs(1)), lists(indexes(0), indexes(0)), [][]int64{nil, nil}},
		{panel(longs(10), longs(4, 6), longs(10)), lists(indexes(0), indexes(0, 1), indexes(0)), [][]int64{nil, {4}, nil}},
		{panel(longs(1, 2, 4, 8, 16), longs(31)), lists(indexes(0, 1, 2, 3, 4), indexes(0)), [][]int64{{1, 3, 7, 15}, nil}},
		{panel(longs(1, 2, 4, 8, 16), longs(31)), lists(indexes(4, 3, 2, 1, 0), indexes(0)), [][]int64{{16, 24, 28, 30}, nil}},
		{panel(longs(1, 2, 4, 8, 16), longs(31)), lists(indexes(2, 0, 4, 1, 3), indexes(0)), [][]int64{{4, 5, 21, 23}, nil}},
		{widest(), lists(indexes(0, 1, 2, 3, 4), indexes(4, 3, 2, 1, 0), indexes(1, 0, 2, 4, 3), indexes(2, 0, 4, 1, 3)), [][]int64{{100, 200, 300, 400}, {100, 200, 300, 400}, {100, 200, 300, 400}, {100, 200, 300, 400}}},
	} {
		if got, e := seam.Seams(x.p, x.orders); !equalLists(got, x.want) || e != api.OK {
			t.Error(i, got, e)
		}
	}
}

// TestThrough is P5.3 for Through: the examples, and ordinary orders.
func TestThrough(t *testing.T) {
	three := panel(longs(1, 2, 3, 4), longs(3, 3, 4), longs(6, 4))
	for i, x := range []struct {
		p      api.SeamPanel
		orders [][]int
		want   []int64
	}{
		{panelA(), lists(indexes(0, 1, 2), indexes(0, 1)), longs(5)},
		{panelA(), lists(indexes(0, 2, 1), indexes(0, 1)), nil},
		{panelB(), lists(indexes(0, 1), indexes(0, 1), indexes(0, 1)), nil},
		{panel(longs(5, 5), longs(4, 6), longs(5, 5)), lists(indexes(0, 1), indexes(0, 1), indexes(0, 1)), nil},
		{panel(longs(4, 6), longs(5, 5), longs(5, 5)), lists(indexes(0, 1), indexes(0, 1), indexes(0, 1)), nil},
		{panel(longs(5, 5), longs(10), longs(5, 5)), lists(indexes(0, 1), indexes(0), indexes(0, 1)), nil},
		{three, lists(indexes(0, 1, 2, 3), indexes(0, 1, 2), indexes(0, 1)), longs(6)},
		{three, lists(indexes(0, 1, 2, 3), indexes(0, 2, 1), indexes(0, 1)), nil},
		{three, lists(indexes(3, 2, 1, 0), indexes(2, 0, 1), indexes(1, 0)), longs(4)},
		{panel(longs(1), longs(1)), lists(indexes(0), indexes(0)), nil},
		{widest(), lists(indexes(0, 1, 2, 3, 4), indexes(4, 3, 2, 1, 0), indexes(1, 0, 2, 4, 3), indexes(2, 0, 4, 1, 3)), longs(100, 200, 300, 400)},
	} {
		if got, e := seam.Through(x.p, x.orders); !slices.Equal(got, x.want) || e != api.OK {
			t.Error(i, got, e)
		}
	}
}

// TestDistance is P5.3 for Distance: the examples, ordinary orders, and neighbours that have not both a seam.
func TestDistance(t *testing.T) {
	for i, x := range []struct {
		p      api.SeamPanel
		orders [][]int
		want   int64
	}{
		{panelA(), lists(indexes(0, 1, 2), indexes(0, 1)), 0},
		{panelA(), lists(indexes(0, 2, 1), indexes(0, 1)), 2},
		{panelA(), lists(indexes(1, 2, 0), indexes(1, 0)), 2},
		{panelB(), lists(indexes(0, 1), indexes(0, 1), indexes(1, 0)), 0},
		{panel(longs(5, 5), longs(4, 6), longs(5, 5)), lists(indexes(0, 1), indexes(0, 1), indexes(0, 1)), 1},
		{panel(longs(2, 8), longs(8, 2)), lists(indexes(0, 1), indexes(0, 1)), 6},
		{panel(longs(8, 2), longs(2, 8)), lists(indexes(0, 1), indexes(0, 1)), 6},
		{panel(longs(2, 8), longs(8, 2), longs(5, 5)), lists(indexes(0, 1), indexes(0, 1), indexes(0, 1)), 3},
		{panel(longs(10), longs(4, 6)), lists(indexes(0), indexes(0, 1)), 10},
		{panel(longs(4, 6), longs(10)), lists(indexes(0, 1), indexes(0)), 10},
		{panel(longs(4, 6), longs(10), longs(4, 6)), lists(indexes(0, 1), indexes(0), indexes(0, 1)), 10},
		{panel(longs(10), longs(1, 9), longs(9, 1), longs(10)), lists(indexes(0), indexes(0, 1), indexes(0, 1), indexes(0)), 8},
		{panel(longs(1), longs(1)), lists(indexes(0), indexes(0)), 1},
		{panel(longs(100), longs(100), longs(100)), lists(indexes(0), indexes(0), indexes(0)), 100},
		{panel(longs(100, 100, 100, 99, 1), longs(1, 99, 100, 100, 100)), lists(indexes(0, 1, 2, 3, 4), indexes(2, 3, 4, 1, 0)), 0},
	} {
		if got, e := seam.Distance(x.p, x.orders); got != x.want || e != api.OK {
			t.Error(i, got, e)
		}
	}
}

// TestOfOrders holds P5.2 and P5.3 against seams that are looked for number by number.
func TestOfOrders(t *testing.T) {
	meet, apart, through := 0, 0, 0
	each(t, 3000, func(r *rand.Rand, p api.SeamPanel) {
		orders := randomOrders(r, p)
		few, far := bothByHand(p, orders)
		if n := meetings(t, p, orders); n != few {
			t.Error("meetings", orders, n, few)
		}
		if n := distance(t, p, orders); n != far {
			t.Error("distance", orders, n, far)
		}
		list := seams(t, p, orders)
		if len(list) != len(p.Layers) {
			t.Fatal("layers", orders, list)
		}
		all := seamsByHand(p.Layers[0], orders[0])
		for i, layer := range p.Layers {
			want := seamsByHand(layer, orders[i])
			if !slices.Equal(list[i], want) {
				t.Error("seams", i, orders, list[i], want)
			}
			all = both(all, want)
		}
		if list := toldOf(t, seam.Through, p, orders); !slices.Equal(list, all) {
			t.Error("through", orders, list, all)
		}
		if few > 0 {
			meet++
		} else {
			apart++
		}
		if len(all) > 0 && len(p.Layers) > 2 {
			through++
		}
	})
	if meet < 500 || apart < 500 || through < 100 {
		t.Error("too few of a sort", meet, apart, through)
	}
}

// TestFewest is P5.4: the examples, and ordinary panels.
func TestFewest(t *testing.T) {
	for i, x := range []struct {
		p      api.SeamPanel
		n      int
		orders [][]int
	}{
		{panelA(), 0, lists(indexes(0, 2, 1), indexes(0, 1))},
		{panelB(), 1, lists(indexes(0, 1), indexes(0, 1), indexes(0, 1))},
		{panel(longs(1), longs(1)), 0, lists(indexes(0), indexes(0))},
		{panel(longs(10), longs(4, 6)), 0, lists(indexes(0), indexes(0, 1))},
		{panel(longs(3, 7), longs(3, 7)), 0, lists(indexes(0, 1), indexes(1, 0))},
		{panel(longs(3, 7), longs(3, 7), longs(3, 7)), 0, lists(indexes(0, 1), indexes(1, 0), indexes(0, 1))},
		{panel(longs(3, 7), longs(5, 5), longs(3, 7)), 0, lists(indexes(0, 1), indexes(0, 1), indexes(0, 1))},
		{panel(longs(2, 2, 2, 2), longs(4, 4)), 1, lists(indexes(0, 1, 2, 3), indexes(0, 1))},
		{panel(longs(1, 1, 2), longs(1, 3)), 0, lists(indexes(0, 1, 2), indexes(1, 0))},
		{panel(longs(1, 1, 2), longs(1, 3), longs(1, 3)), 0, lists(indexes(0, 1, 2), indexes(1, 0), indexes(0, 1))},
		{panel(longs(2, 2, 2), longs(1, 2, 3)), 0, lists(indexes(0, 1, 2), indexes(0, 1, 2))},
		{panel(longs(1, 2, 3), longs(3, 3)), 0, lists(indexes(0, 2, 1), indexes(0, 1))},
		{panel(longs(2, 2, 2), longs(1, 2, 3), longs(3, 3)), 1, lists(indexes(0, 1, 2), indexes(0, 1, 2), indexes(0, 1))},
		{panel(longs(1, 3), longs(1, 1, 2)), 0, lists(indexes(0, 1), indexes(2, 0, 1))},
		{widest(), 12, lists(indexes(0, 1, 2, 3, 4), indexes(0, 1, 2, 3, 4), indexes(0, 1, 2, 3, 4), indexes(0, 1, 2, 3, 4))},
	} {
		if n, e := seam.Fewest(x.p); n != x.n || e != api.OK {
			t.Error(i, n, e)
		}
		if orders, e := seam.Orders(x.p); !equalLists(orders, x.orders) || e != api.OK {
			t.Error(i, orders, e)
		}
	}
}

// bruteForce returns the fewest meetings, the first orders that have as many, and the greatest distance, from a list of all orders.
func bruteForce(p api.SeamPanel) (few int, first [][]int, far int64) {
	few, far = math.MaxInt, -1
	all := [][][]int{nil}
	for _, layer := range p.Layers {
		var longer [][][]int
		for _, orders := range all {
			for _, order := range permutations(len(layer)) {
				longer = append(longer, append(slices.Clone(orders), order))
			}
		}
		all = longer
	}
	for _, orders := range all {
		n, distance := bothByHand(p, orders)
		if n < few {
			few, first = n, orders
		}
		far = max(far, distance)
	}
	return few, first, far
}

// TestBruteForce holds P5.4 and P5.7 against a list of all orders, for panels that have not too many.
func TestBruteForce(t *testing.T) {
	r := rand.New(rand.NewSource(4))
	shapes := [][]int{{2, 5}, {3, 4}, {4, 3}} // layers, and strips of each
	sorts := map[bool]int{}
	for i := range 450 {
		shape := shapes[i%len(shapes)]
		p := randomPanel(r, shape[0], shape[1])
		few, first, most := bruteForce(p)
		sorts[few > 0]++
		if n := fewest(t, p); n != few {
			t.Fatal("fewest", p, n, few)
		}
		if orders := told(t, seam.Orders, p); !equalLists(orders, first) {
			t.Fatal("orders", p, orders, first)
		}
		if n := far(t, p); n != most {
			t.Fatal("far", p, n, most)
		}
	}
	if sorts[true] < 30 || sorts[false] < 100 {
		t.Error("too few of a sort", sorts)
	}
}

// TestFewestUpToLimits holds P5.4 and P5.7 against the best up to each layer, on panels up to the limits. That no orders before the ones told have as few meetings is looked at layer by layer: those before the own one, behind the same.
func TestFewestUpToLimits(t *testing.T) {
	each(t, 60, func(_ *rand.Rand, p api.SeamPanel) {
		all := allOf(p)
		few, most := bestOf(p, all)
		if n := fewest(t, p); n != few {
			t.Error("fewest", n, few)
		}
		if n := far(t, p); n != most {
			t.Error("far", n, most)
		}
		orders := told(t, seam.Orders, p)
		if n, _ := bothByHand(p, orders); n != few {
			t.Error("orders", orders, n, few)
		}
		for i, order := range orders {
			some := slices.Clone(all)
			for k := range i {
				some[k] = orders[k : k+1]
			}
			at := slices.IndexFunc(all[i], func(other []int) bool { return slices.Equal(order, other) })
			some[i] = all[i][:at]
			if at == 0 {
				continue
			}
			if n, _ := bestOf(p, some); n <= few {
				t.Error("orders before", i, orders, n, few)
			}
		}
	})
}

// TestPair is P5.5: the examples, the error, and all neighbours.
func TestPair(t *testing.T) {
	for i, x := range []struct {
		p     api.SeamPanel
		layer int
		n     int
		e     api.Errno
	}{
		{panelB(), 0, 1, api.OK},
		{panelB(), 1, 0, api.OK},
		{panelB(), 2, 0, api.ErrArg},
		{panelB(), 3, 0, api.ErrArg},
		{panelB(), 4, 0, api.ErrArg},
		{panelB(), -1, 0, api.ErrArg},
		{panelA(), 0, 0, api.OK},
		{panelA(), 1, 0, api.ErrArg},
		{panelA(), 2, 0, api.ErrArg},
		{widest(), 2, 4, api.OK},
		{widest(), 3, 0, api.ErrArg},
		{widest(), 4, 0, api.ErrArg},
		{widest(), -1, 0, api.ErrArg},
		{widest(), math.MaxInt, 0, api.ErrArg},
		{widest(), math.MinInt, 0, api.ErrArg},
		{panel(longs(4, 4), longs(8), longs(2, 2, 2, 2), longs(4, 4)), 0, 0, api.OK},
		{panel(longs(4, 4), longs(8), longs(2, 2, 2, 2), longs(4, 4)), 1, 0, api.OK},
		{panel(longs(4, 4), longs(8), longs(2, 2, 2, 2), longs(4, 4)), 2, 1, api.OK},
	} {
		if n, e := seam.Pair(x.p, x.layer); n != x.n || e != x.e {
			t.Error(i, n, e)
		}
	}
	each(t, 60, func(_ *rand.Rand, p api.SeamPanel) {
		for i := range len(p.Layers) - 1 {
			two := panel(p.Layers[i : i+2]...)
			few, _ := bestOf(two, allOf(two))
			if n := toldOf(t, seam.Pair, p, i); n != few {
				t.Error(i, n, few)
			}
		}
	})
}
