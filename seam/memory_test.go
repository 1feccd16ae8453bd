package seam_test

import (
	"math"
	"math/rand"
	"reflect"
	"slices"
	"testing"

	"crossband/api"
	"crossband/seam"
)

// callAll calls all functions, and lists what they return.
func callAll(p api.SeamPanel, orders [][]int, layer int, distance int64) []any {
	var out []any
	add := func(x any, e api.Errno) { out = append(out, x, e) }
	add(nil, seam.CheckPanel(p))
	n, e := seam.CheckOrders(p, orders)
	add(n, e)
	all, e := seam.Seams(p, orders)
	add(all, e)
	list, e := seam.Through(p, orders)
	add(list, e)
	long, e := seam.Distance(p, orders)
	add(long, e)
	n, e = seam.Fewest(p)
	add(n, e)
	first, e := seam.Orders(p)
	add(first, e)
	n, e = seam.Pair(p, layer)
	add(n, e)
	list, e = seam.Sums(p, layer)
	add(list, e)
	list, e = seam.Sure(p, layer)
	add(list, e)
	long, e = seam.Far(p)
	add(long, e)
	apart, e := seam.Apart(p, distance)
	add(apart, e)
	return out
}

// TestAgain: equal calls return equal results (R9, R10), whatever is called in between, and no argument is changed (R4).
func TestAgain(t *testing.T) {
	var first [][]any
	for round := range 4 {
		r := rand.New(rand.NewSource(9))
		i := 0
		for _, p := range goodPanels {
			orders := randomOrders(r, p)
			for layer := -1; layer <= 4; layer++ {
				given, own := panel(copied(p.Layers)...), copied(orders)
				got := callAll(given, own, layer, int64(layer))
				if !equalLists(given.Layers, p.Layers) || !equalLists(own, orders) {
					t.Fatal("changed", given, own)
				}
				if round == 0 {
					first = append(first, got)
				} else if !reflect.DeepEqual(got, first[i]) {
					t.Fatal(got, first[i])
				}
				i++
			}
		}
	}
}

// TestSpare: room behind the elements of an argument is not written to (R4).
func TestSpare(t *testing.T) {
	widths, order := longs(2, 3, 5, 77, 77), indexes(0, 2, 1, 77, 77)
	layers := [][]int64{widths[:3], longs(5, 5), longs(77), longs(77)}
	orders := lists(order[:3], indexes(0, 1), indexes(77), indexes(77))
	for layer := range 2 {
		callAll(panel(layers[:2]...), orders[:2], layer, 2)
	}
	if !slices.Equal(widths, longs(2, 3, 5, 77, 77)) || !slices.Equal(order, indexes(0, 2, 1, 77, 77)) {
		t.Error(widths, order)
	}
	if !equalLists(layers[1:], [][]int64{{5, 5}, {77}, {77}}) || !equalLists(orders[1:], lists(indexes(0, 1), indexes(77), indexes(77))) {
		t.Error(layers, orders)
	}
}

// apartFromOthers checks that a list can be cleared and grown without a trace in the other ones (R4).
func apartFromOthers[T comparable](t *testing.T, got [][]T) {
	t.Helper()
	want := copied(got)
	for i := range got {
		var x T
		grown := append(got[i], x)
		clear(grown)
		clear(got[i])
		for j := i + 1; j < len(got); j++ {
			if !slices.Equal(got[j], want[j]) {
				t.Error(got[j], want[j])
			}
		}
	}
}

// TestOwnMemory: what one call returns can be changed, or grown, without a trace in an argument or in what another one returns (R4).
func TestOwnMemory(t *testing.T) {
	for _, p := range goodPanels {
		r := rand.New(rand.NewSource(8))
		given, orders := panel(copied(p.Layers)...), randomOrders(r, p)
		own := copied(orders)
		before := callAll(given, own, 0, 0)
		apartFromOthers(t, seams(t, given, own))
		apartFromOthers(t, told(t, seam.Orders, given))
		apartFromOthers(t, toldOf(t, seam.Apart, given, 0))
		clear(toldOf(t, seam.Through, given, own))
		clear(sums(t, given, 0))
		clear(sure(t, given, 0))
		if !equalLists(given.Layers, p.Layers) || !equalLists(own, orders) {
			t.Fatal("changed", given, own)
		}
		if after := callAll(given, own, 0, 0); !reflect.DeepEqual(before, after) {
			t.Fatal(before, after)
		}
	}
}

// TestSharedArguments: lists of arguments may be the same memory (R4).
func TestSharedArguments(t *testing.T) {
	layer, order := longs(2, 3, 5), indexes(1, 2, 0)
	p, orders := panel(layer, layer, layer, layer), lists(order, order, order, order)
	if n := meetings(t, p, orders); n != 6 {
		t.Error(n)
	}
	if list := toldOf(t, seam.Through, p, orders); !slices.Equal(list, longs(3, 8)) {
		t.Error(list)
	}
	apartFromOthers(t, seams(t, p, orders))
	apartFromOthers(t, told(t, seam.Orders, p))
	if !slices.Equal(layer, longs(2, 3, 5)) || !slices.Equal(order, indexes(1, 2, 0)) {
		t.Error(layer, order)
	}
}

// TestEmpty: a nil list and an empty one are the same (R3).
func TestEmpty(t *testing.T) {
	for _, layers := range [][][]int64{nil, {}} {
		if e := seam.CheckPanel(panel(layers...)); e != api.ErrMany {
			t.Error(e)
		}
	}
	for _, layer := range [][]int64{nil, {}} {
		if e := seam.CheckPanel(panel(longs(5), layer)); e != api.ErrMany {
			t.Error(e)
		}
	}
	for name, f := range ordersFunctions {
		for _, orders := range [][][]int{nil, {}} {
			if zero, e := f(panelA(), orders); !zero || e != api.ErrEqual {
				t.Error(name, e)
			}
		}
		for _, order := range [][]int{nil, {}} {
			if zero, e := f(panelA(), lists(indexes(0, 1, 2), order)); !zero || e != api.ErrRule {
				t.Error(name, e)
			}
		}
	}
}

// TestAnyNumber: no call panics, whatever the numbers are (P1, R5).
func TestAnyNumber(t *testing.T) {
	numbers := longs(math.MinInt64, math.MinInt64+1, -101, -1, 0, 1, 2, 4, 5, 100, 101, 1<<32, 1<<62, math.MaxInt64-1, math.MaxInt64)
	for _, x := range numbers {
		for _, y := range numbers {
			for _, p := range []api.SeamPanel{panelA(), panel(longs(x), longs(y)), panel(longs(x, y), longs(y, x)), panel(longs(x, y), longs(x+y), longs(1)), panel(nil, longs(x))} {
				callAll(p, lists(indexes(int(x), int(y)), indexes(int(y))), int(x), y)
				callAll(p, lists(indexes(0, 1, int(x)), indexes(0, int(y))), int(y), x)
			}
		}
	}
}
