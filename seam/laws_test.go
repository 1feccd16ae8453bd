package seam_test

import (
	"math/rand"
	"slices"
	"testing"

	"crossband/api"
	"crossband/seam"
)

// pairs returns the fewest meetings of all neighbours, each two alone.
func pairs(t *testing.T, p api.SeamPanel) []int {
	t.Helper()
	var out []int
	for i := range len(p.Layers) - 1 {
		out = append(out, toldOf(t, seam.Pair, p, i))
	}
	return out
}

// TestProved is P5.8: the fewest meetings bound those of any orders, and are bounded by those of neighbours, and by sure seams.
func TestProved(t *testing.T) {
	equal, more, certain := 0, 0, 0
	each(t, 300, func(r *rand.Rand, p api.SeamPanel) {
		few, alone := fewest(t, p), 0
		for i, n := range pairs(t, p) {
			alone += n
			meet := len(both(sure(t, p, i), sure(t, p, i+1)))
			certain += meet
			if n < meet {
				t.Error("fewer than are sure", i, n, meet)
			}
		}
		switch {
		case few < alone:
			t.Error("fewer than alone", few, alone)
		case few == alone:
			equal++
		default:
			more++
		}
		for range 20 {
			orders := randomOrders(r, p)
			if n := meetings(t, p, orders); n < few {
				t.Error("fewer", orders, n, few)
			}
			list := seams(t, p, orders)
			for i := range len(list) - 1 {
				meet, certain := both(list[i], list[i+1]), both(sure(t, p, i), sure(t, p, i+1))
				if !slices.Equal(both(certain, meet), certain) {
					t.Error("no meeting", i, orders, meet, certain)
				}
			}
		}
	})
	if equal < 100 || more < 3 || certain < 20 {
		t.Error("too few of a sort", equal, more, certain)
	}
}

// TestTurned is P5.11 for orders that are turned round.
func TestTurned(t *testing.T) {
	each(t, 1000, func(r *rand.Rand, p api.SeamPanel) {
		orders := randomOrders(r, p)
		turned := copied(orders)
		for _, order := range turned {
			slices.Reverse(order)
		}
		if n, m := meetings(t, p, orders), meetings(t, p, turned); n != m {
			t.Error("meetings", orders, n, m)
		}
		if n, m := distance(t, p, orders), distance(t, p, turned); n != m {
			t.Error("distance", orders, n, m)
		}
		list := seams(t, p, turned)
		for i, want := range seams(t, p, orders) {
			for k, at := range want {
				want[k] = width(p) - at
			}
			slices.Reverse(want)
			if !slices.Equal(list[i], want) {
				t.Error("seams", i, orders, list[i], want)
			}
		}
	})
}

// TestLayersTurned is P5.11 for layers that come the other way round.
func TestLayersTurned(t *testing.T) {
	each(t, 150, func(r *rand.Rand, p api.SeamPanel) {
		turned := panel(slices.Clone(p.Layers)...)
		slices.Reverse(turned.Layers)
		if n, m := fewest(t, p), fewest(t, turned); n != m {
			t.Error("fewest", n, m)
		}
		if n, m := far(t, p), far(t, turned); n != m {
			t.Error("far", n, m)
		}
		alone := pairs(t, turned)
		slices.Reverse(alone)
		if want := pairs(t, p); !slices.Equal(alone, want) {
			t.Error("pairs", alone, want)
		}
		orders := randomOrders(r, p)
		other := copied(orders)
		slices.Reverse(other)
		if n, m := meetings(t, p, orders), meetings(t, turned, other); n != m {
			t.Error("meetings", orders, n, m)
		}
		if n, m := distance(t, p, orders), distance(t, turned, other); n != m {
			t.Error("distance", orders, n, m)
		}
	})
}

// scaled returns a list of numbers that are so many times as great.
func scaled(list []int64, times int64) []int64 {
	out := slices.Clone(list)
	for i := range out {
		out[i] *= times
	}
	return out
}

// scaledPanel returns a panel whose widths are so many times as great, and whether it is valid.
func scaledPanel(p api.SeamPanel, times int64) (api.SeamPanel, bool) {
	var out api.SeamPanel
	for _, layer := range p.Layers {
		out.Layers = append(out.Layers, scaled(layer, times))
	}
	return out, seam.CheckPanel(out) == api.OK
}

// TestScaled is P5.12.
func TestScaled(t *testing.T) {
	many := 0
	each(t, 200, func(r *rand.Rand, p api.SeamPanel) {
		times := 2 + r.Int63n(6)
		wide, ok := scaledPanel(p, times)
		if !ok {
			return
		}
		many++
		orders := randomOrders(r, p)
		if n, m := meetings(t, p, orders), meetings(t, wide, orders); n != m {
			t.Error("meetings", times, n, m)
		}
		if n, m := distance(t, p, orders)*times, distance(t, wide, orders); n != m {
			t.Error("distance", times, n, m)
		}
		if n, m := far(t, p)*times, far(t, wide); n != m {
			t.Error("far", times, n, m)
		}
		if !equalLists(told(t, seam.Orders, p), told(t, seam.Orders, wide)) || fewest(t, p) != fewest(t, wide) {
			t.Error("orders", times)
		}
		if list, want := toldOf(t, seam.Through, wide, orders), scaled(toldOf(t, seam.Through, p, orders), times); !slices.Equal(list, want) {
			t.Error("through", times, list, want)
		}
		list := seams(t, wide, orders)
		for i, x := range seams(t, p, orders) {
			if !slices.Equal(list[i], scaled(x, times)) {
				t.Error("seams", times, i, list[i], x)
			}
			if !slices.Equal(sums(t, wide, i), scaled(sums(t, p, i), times)) || !slices.Equal(sure(t, wide, i), scaled(sure(t, p, i), times)) {
				t.Error("sums", times, i)
			}
		}
	})
	if many < 50 {
		t.Error("too few", many)
	}
}

// TestFewer is P5.13: a panel without its last layer.
func TestFewer(t *testing.T) {
	same, fewer, farther := 0, 0, 0
	each(t, 300, func(_ *rand.Rand, p api.SeamPanel) {
		if len(p.Layers) == 2 {
			return
		}
		without := panel(p.Layers[:len(p.Layers)-1]...)
		few, n := fewest(t, p), fewest(t, without)
		switch {
		case n > few:
			t.Error("more meetings", n, few)
		case n == few:
			same++
		default:
			fewer++
		}
		if most, n := far(t, p), far(t, without); n < most {
			t.Error("not as far", n, most)
		} else if n > most {
			farther++
		}
	})
	if same < 50 || fewer < 20 || farther < 50 {
		t.Error("too few of a sort", same, fewer, farther)
	}
}

// alike returns the layers of strips of the same width that are so wide together.
func alike(width int64) [][]int64 {
	var out [][]int64
	for strips := int64(1); strips <= api.MaxSeamStrips; strips++ {
		if width%strips == 0 && width/strips <= api.MaxSeamWidth {
			out = append(out, slices.Repeat(longs(width/strips), int(strips)))
		}
	}
	return out
}

// TestAlike is P5.14: layers of strips that are all of the same width.
func TestAlike(t *testing.T) {
	met := 0
	for n := int64(1); n <= api.MaxSeamStrips*api.MaxSeamWidth; n++ {
		for _, x := range alike(n) {
			for _, y := range alike(n) {
				p := panel(x, y)
				for i, layer := range p.Layers {
					var want []int64
					for k := range len(layer) - 1 {
						want = append(want, int64(k+1)*layer[0])
					}
					if !slices.Equal(sure(t, p, i), want) || !slices.Equal(sums(t, p, i), want) {
						t.Error(p, i, want)
					}
				}
				want := len(both(sums(t, p, 0), sums(t, p, 1)))
				met += want
				if n%20 == 0 && (fewest(t, p) != want || toldOf(t, seam.Pair, p, 0) != want) {
					t.Error(p, want)
				}
				if n := meetings(t, p, told(t, seam.Orders, p)); n != want {
					t.Error(p, n, want)
				}
			}
		}
	}
	if met < 100 {
		t.Error("too few meetings", met)
	}
}

// fewestOf returns the fewest meetings of some layers; a layer alone has none.
func fewestOf(t *testing.T, layers [][]int64) int {
	t.Helper()
	if len(layers) < 2 {
		return 0
	}
	return fewest(t, panel(layers...))
}

// TestWhole is P5.15: a layer of one strip has no seams, and no meetings, so the layers before and behind it have theirs by themselves.
func TestWhole(t *testing.T) {
	many := 0
	each(t, 300, func(r *rand.Rand, p api.SeamPanel) {
		if width(p) > api.MaxSeamWidth {
			return
		}
		many++
		at := r.Intn(len(p.Layers))
		whole := panel(slices.Clone(p.Layers)...)
		whole.Layers[at] = longs(width(p))
		if list := seams(t, whole, randomOrders(r, whole)); len(list[at]) != 0 {
			t.Error("seams", at, list)
		}
		if len(sums(t, whole, at)) != 0 || len(sure(t, whole, at)) != 0 {
			t.Error("sums", at)
		}
		for i, n := range pairs(t, whole) {
			if n != 0 && (i == at || i+1 == at) {
				t.Error("meetings", at, i, n)
			}
		}
		if n, want := fewest(t, whole), fewestOf(t, p.Layers[:at])+fewestOf(t, p.Layers[at+1:]); n != want {
			t.Error("fewest", at, n, want)
		}
		if len(p.Layers) == 2 && far(t, whole) != width(p) {
			t.Error("far", at)
		}
	})
	if many < 100 {
		t.Error("too few", many)
	}
}
