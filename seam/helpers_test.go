package seam_test

import (
	"math/rand"
	"slices"
	"testing"

	"crossband/api"
	"crossband/seam"
)

func indexes(x ...int) []int   { return x }
func longs(x ...int64) []int64 { return x }
func lists(x ...[]int) [][]int { return x }

func panel(layers ...[]int64) api.SeamPanel { return api.SeamPanel{Layers: layers} }

// panelA and panelB are A and B of the chapter's examples.
func panelA() api.SeamPanel { return panel(longs(2, 3, 5), longs(5, 5)) }
func panelB() api.SeamPanel { return panel(longs(5, 5), longs(5, 5), longs(4, 6)) }

// widest is the panel with the most layers and strips, all of them as wide as can be.
func widest() api.SeamPanel {
	return panel(longs(100, 100, 100, 100, 100), longs(100, 100, 100, 100, 100), longs(100, 100, 100, 100, 100), longs(100, 100, 100, 100, 100))
}

var goodPanels = []api.SeamPanel{
	panelA(),
	panelB(),
	widest(),
	panel(longs(1), longs(1)),
	panel(longs(100), longs(100), longs(100), longs(100)),
	panel(longs(10), longs(4, 6)),
	panel(longs(4, 6), longs(10)),
	panel(longs(3, 7), longs(10), longs(3, 7)),
	panel(longs(3, 7), longs(7, 3), longs(3, 7)),
	panel(longs(2, 2, 2), longs(3, 3)),
	panel(longs(2, 2, 2, 2), longs(4, 4)),
	panel(longs(1, 1), longs(1, 1), longs(1, 1), longs(1, 1)),
	panel(longs(1, 1, 1, 1, 1), longs(1, 4), longs(2, 3), longs(5)),
	panel(longs(1, 1, 1, 1, 1), longs(1, 1, 1, 1, 1)),
	panel(longs(1, 2, 3, 4), longs(4, 3, 2, 1), longs(10)),
	panel(longs(1, 2, 3, 4), longs(4, 3, 2, 1), longs(5, 5)),
	panel(longs(1, 2, 4, 8, 16), longs(16, 15), longs(10, 10, 11)),
	panel(longs(1, 2, 4, 8, 16), longs(31), longs(16, 8, 4, 2, 1)),
	panel(longs(1, 1, 98), longs(100), longs(50, 50), longs(99, 1)),
	panel(longs(1, 3, 7, 19, 50), longs(2, 5, 11, 22, 40), longs(6, 9, 13, 21, 31), longs(10, 17, 23, 29, 1)),
}

// width returns the width of a panel.
func width(p api.SeamPanel) int64 {
	sum := int64(0)
	for _, n := range p.Layers[0] {
		sum += n
	}
	return sum
}

// permutations returns the orders of so many strips, in lexicographic order: of all lists of as many numbers below it those that have each of them.
func permutations(many int) [][]int {
	all := [][]int{nil}
	for range many {
		var longer [][]int
		for _, list := range all {
			for n := range many {
				longer = append(longer, append(slices.Clone(list), n))
			}
		}
		all = longer
	}
	return slices.DeleteFunc(all, func(list []int) bool {
		for n := range many {
			if !slices.Contains(list, n) {
				return true
			}
		}
		return false
	})
}

// allOf returns the orders of each layer of a panel.
func allOf(p api.SeamPanel) [][][]int {
	var out [][][]int
	for _, layer := range p.Layers {
		out = append(out, permutations(len(layer)))
	}
	return out
}

// isSeam reports whether a layer has a seam at a number: whether some of the first strips, but not all, are as wide.
func isSeam(layer []int64, order []int, at int64) bool {
	for many := 1; many < len(order); many++ {
		left := at
		for _, strip := range order[:many] {
			left -= layer[strip]
		}
		if left == 0 {
			return true
		}
	}
	return false
}

// seamsByHand returns the seams of a layer, increasing; each number is looked at by itself.
func seamsByHand(layer []int64, order []int) []int64 {
	var out []int64
	for at := range width(panel(layer)) + 1 {
		if isSeam(layer, order, at) {
			out = append(out, at)
		}
	}
	return out
}

// meetingsByHand returns the meetings of two neighbours, from their seams.
func meetingsByHand(seams, next []int64) int {
	many := 0
	for at := range int64(500) {
		if slices.Contains(seams, at) && slices.Contains(next, at) {
			many++
		}
	}
	return many
}

// distanceByHand returns the distance of two neighbours, from their seams; so much, if not both have one.
func distanceByHand(seams, next []int64, none int64) int64 {
	if len(seams) == 0 || len(next) == 0 {
		return none
	}
	for distance := int64(0); ; distance++ {
		for _, at := range seams {
			if slices.Contains(next, at+distance) || slices.Contains(next, at-distance) {
				return distance
			}
		}
	}
}

// bothByHand returns the meetings of orders, and their distance.
func bothByHand(p api.SeamPanel, orders [][]int) (meetings int, distance int64) {
	distance = width(p)
	for i := 1; i < len(p.Layers); i++ {
		seams, next := seamsByHand(p.Layers[i-1], orders[i-1]), seamsByHand(p.Layers[i], orders[i])
		meetings += meetingsByHand(seams, next)
		distance = min(distance, distanceByHand(seams, next, width(p)))
	}
	return meetings, distance
}

// bestOf returns the fewest meetings, and the greatest distance, of the orders that have one of some for each layer. It goes from the first layer to the last one, for each order of which it keeps what the layers up to it have at best.
func bestOf(p api.SeamPanel, some [][][]int) (few int, far int64) {
	type upTo struct {
		seams []int64
		few   int
		far   int64
	}
	var now []upTo
	for i, orders := range some {
		var next []upTo
		for _, order := range orders {
			x := upTo{seamsByHand(p.Layers[i], order), 0, width(p)}
			for k, y := range now {
				few, far := y.few+meetingsByHand(y.seams, x.seams), min(y.far, distanceByHand(y.seams, x.seams, width(p)))
				if k == 0 {
					x.few, x.far = few, far
				}
				x.few, x.far = min(x.few, few), max(x.far, far)
			}
			if !slices.ContainsFunc(next, func(y upTo) bool { return slices.Equal(x.seams, y.seams) }) {
				next = append(next, x) // orders with the same seams have the same at best
			}
		}
		now = next
	}
	few, far = now[0].few, now[0].far
	for _, x := range now {
		few, far = min(few, x.few), max(far, x.far)
	}
	return few, far
}

// randomLayer returns so many strips, as wide together.
func randomLayer(r *rand.Rand, strips int, width int64) []int64 {
	out := slices.Repeat(longs(1), strips)
	most := longs(1, 4, 100)[r.Intn(3)] // few at a time make strips as wide as one another
	for left := width - int64(strips); left > 0; {
		i := r.Intn(strips)
		more := min(1+r.Int63n(most), left, api.MaxSeamWidth-out[i])
		out[i] += more
		left -= more
	}
	return out
}

// randomPanel returns a panel of so many layers, each of up to so many strips: a wide one, a narrow one, or one with strips of the same width, so that seams meet.
func randomPanel(r *rand.Rand, layers, strips int) api.SeamPanel {
	least, most := 1, api.MaxSeamStrips
	var many []int
	for range layers {
		n := 1 + r.Intn(strips)
		many = append(many, n)
		least, most = max(least, n), min(most, n)
	}
	width, sort := int64(least)+r.Int63n(int64(most*api.MaxSeamWidth-least+1)), r.Intn(3)
	switch sort {
	case 1:
		width = int64(least) + r.Int63n(10)
	case 2:
		width = 12
	}
	var p api.SeamPanel
	for _, n := range many {
		if sort == 2 && 12%n == 0 && r.Intn(3) > 0 {
			p.Layers = append(p.Layers, slices.Repeat(longs(int64(12/n)), n))
		} else {
			p.Layers = append(p.Layers, randomLayer(r, n, width))
		}
	}
	return p
}

// randomOrders returns some orders of a panel.
func randomOrders(r *rand.Rand, p api.SeamPanel) [][]int {
	var out [][]int
	for _, layer := range p.Layers {
		out = append(out, r.Perm(len(layer)))
	}
	return out
}

// each calls f with panels up to the limits.
func each(t *testing.T, times int, f func(r *rand.Rand, p api.SeamPanel)) {
	t.Helper()
	r := rand.New(rand.NewSource(int64(times)))
	for i := range len(goodPanels) + times {
		var p api.SeamPanel
		if i < len(goodPanels) {
			p = goodPanels[i]
		} else {
			p = randomPanel(r, 2+r.Intn(api.MaxSeamLayers-1), api.MaxSeamStrips)
		}
		f(r, p)
		if t.Failed() {
			t.Fatal(p)
		}
	}
}

// told returns what a function tells of a valid panel.
func told[T any](t *testing.T, f func(api.SeamPanel) (T, api.Errno), p api.SeamPanel) T {
	t.Helper()
	x, e := f(p)
	if e != api.OK {
		t.Fatal(p, e)
	}
	return x
}

// toldOf returns what a function tells of a valid panel and something else.
func toldOf[T, A any](t *testing.T, f func(api.SeamPanel, A) (T, api.Errno), p api.SeamPanel, a A) T {
	t.Helper()
	x, e := f(p, a)
	if e != api.OK {
		t.Fatal(p, a, e)
	}
	return x
}

func fewest(t *testing.T, p api.SeamPanel) int {
	t.Helper()
	return told(t, seam.Fewest, p)
}

func far(t *testing.T, p api.SeamPanel) int64 {
	t.Helper()
	return told(t, seam.Far, p)
}

func meetings(t *testing.T, p api.SeamPanel, orders [][]int) int {
	t.Helper()
	return toldOf(t, seam.CheckOrders, p, orders)
}

func distance(t *testing.T, p api.SeamPanel, orders [][]int) int64 {
	t.Helper()
	return toldOf(t, seam.Distance, p, orders)
}

func seams(t *testing.T, p api.SeamPanel, orders [][]int) [][]int64 {
	t.Helper()
	return toldOf(t, seam.Seams, p, orders)
}

func sums(t *testing.T, p api.SeamPanel, layer int) []int64 {
	t.Helper()
	return toldOf(t, seam.Sums, p, layer)
}

func sure(t *testing.T, p api.SeamPanel, layer int) []int64 {
	t.Helper()
	return toldOf(t, seam.Sure, p, layer)
}

// equalLists reports whether two lists of lists are the same.
func equalLists[T comparable](a, b [][]T) bool { return slices.EqualFunc(a, b, slices.Equal[[]T]) }

// copied returns a list of lists that shares no memory with another one.
func copied[T any](list [][]T) [][]T {
	var out [][]T
	for _, x := range list {
		out = append(out, slices.Clone(x))
	}
	return out
}

// both returns the numbers that two lists have, in the order of the first one.
func both(a, b []int64) []int64 {
	var out []int64
	for _, n := range a {
		if slices.Contains(b, n) {
			out = append(out, n)
		}
	}
	return out
}
