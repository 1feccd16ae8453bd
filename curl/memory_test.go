package curl_test

import (
	"math"
	"math/rand"
	"reflect"
	"slices"
	"testing"

	"crossband/api"
	"crossband/curl"
)

// callAll calls all functions, and lists what they return.
func callAll(p api.CurlPanel, order []int, damp int64, list []api.CurlChange) []any {
	var out []any
	add := func(x any, e api.Errno) { out = append(out, x, e) }
	add(nil, curl.CheckPanel(p))
	along, across, e := curl.Moments(p, order, damp)
	add(longs(along, across), e)
	long, e := curl.Curl(p, order)
	add(long, e)
	long, e = curl.Least(p)
	add(long, e)
	best, e := curl.Order(p)
	add(best, e)
	n, e := curl.Flats(p)
	add(n, e)
	n, e = curl.CheckCure(p, order, list)
	add(n, e)
	n, e = curl.Fewest(p, order)
	add(n, e)
	cure, e := curl.Cure(p, order)
	add(cure, e)
	sheets, e := curl.Blame(p)
	add(sheets, e)
	return out
}

// TestAgain: equal calls return equal results (R9, R10), whatever is called in between, and no argument is changed (R4).
func TestAgain(t *testing.T) {
	var first [][]any
	for round := range 4 {
		r := rand.New(rand.NewSource(9))
		for i, p := range goodPanels {
			order, list := r.Perm(len(p.Sheets)), randomChanges(r, p)
			given, own, some := copied(p), slices.Clone(order), slices.Clone(list)
			got := callAll(given, own, p.Damp.Hi, some)
			if !reflect.DeepEqual(given, p) || !slices.Equal(own, order) || !slices.Equal(some, list) {
				t.Fatal("changed", given, own, some)
			}
			if round == 0 {
				first = append(first, got)
			} else if !reflect.DeepEqual(got, first[i]) {
				t.Fatal(got, first[i])
			}
		}
	}
}

// TestSpare: room behind the elements of an argument is not written to (R4).
func TestSpare(t *testing.T) {
	r := rand.New(rand.NewSource(8))
	for _, p := range goodPanels {
		order, list := r.Perm(len(p.Sheets)), randomChanges(r, p)
		sheets := append(slices.Clone(p.Sheets), sheet(77, 7), sheet(77, 7))
		longer := append(slices.Clone(order), 77, 77)
		more := append(slices.Clone(list), changes(77, 7, 7, 77, 7, 7)...)
		before := slices.Concat(sheets)
		callAll(api.CurlPanel{Sheets: sheets[:len(p.Sheets)], Damp: p.Damp}, longer[:len(order)], p.Damp.Lo, more[:len(list)])
		if !slices.Equal(sheets, before) || !slices.Equal(longer, append(order, 77, 77)) || !slices.Equal(more, append(list, changes(77, 7, 7, 77, 7, 7)...)) {
			t.Fatal(sheets, longer, more)
		}
	}
}

// overwrite changes all elements of a list, and grows it.
func overwrite[T any](list []T, x T) {
	list = append(list, x)
	for i := range list {
		list[i] = x
	}
}

// TestOwnMemory: what one call returns can be changed, or grown, without a trace in an argument or in what another one returns (R4).
func TestOwnMemory(t *testing.T) {
	for _, p := range goodPanels {
		given, order := copied(p), turned(inOrder(len(p.Sheets)))
		own := slices.Clone(order)
		before := callAll(given, own, p.Damp.Lo, nil)
		overwrite(told(t, curl.Order, given), 77)
		overwrite(toldOf(t, curl.Cure, given, own), changes(77, 7, 7)[0])
		overwrite(blame(t, given), 77)
		if !reflect.DeepEqual(given, p) || !slices.Equal(own, order) {
			t.Fatal("changed", given, own)
		}
		if after := callAll(given, own, p.Damp.Lo, nil); !reflect.DeepEqual(before, after) {
			t.Fatal(before, after)
		}
	}
}

// TestEmpty: a nil list and an empty one are the same (R3).
func TestEmpty(t *testing.T) {
	none := api.CurlPanel{Sheets: []api.CurlSheet{}, Damp: to(0, 9)}
	if !reflect.DeepEqual(callAll(none, nil, 0, nil), callAll(panel(0, 9), []int{}, 0, []api.CurlChange{})) {
		t.Error("no sheets")
	}
	for _, p := range goodPanels {
		for _, order := range [][]int{nil, inOrder(len(p.Sheets))} {
			if !reflect.DeepEqual(callAll(p, order, 0, nil), callAll(p, slices.Concat(order, []int{}), 0, []api.CurlChange{})) {
				t.Error(p, order)
			}
		}
	}
}

// TestAnyNumber: no call panics, whatever the numbers are (P1, R5).
func TestAnyNumber(t *testing.T) {
	numbers := longs(math.MinInt64, math.MinInt64+1, -11, -10, -1, 0, 1, 2, 10, 11, 50, 51, 100, 101, 1<<32, 1<<62, math.MaxInt64-1, math.MaxInt64)
	for _, m := range numbers {
		for _, n := range numbers {
			for _, p := range []api.CurlPanel{panelA(), panel(m, n, 1, 1, 2, 2, 3, 3), panel(0, 1, m, n, n, m, 0, 0), panel(n, n, 0, 0, m, 0, 0, m)} {
				list := changes(int(m), int(n), 0, int(n), 0, int(m))
				callAll(p, indexes(0, 1, 2), m, list)
				callAll(p, indexes(int(m), int(n), 0), n, list[1:])
			}
		}
	}
}
