package curl_test

import (
	"math"
	"math/rand"
	"slices"
	"testing"

	"crossband/api"
	"crossband/curl"
)

// badPanels are panels that are not valid, with their errors; of several errors the one named first (R1).
var badPanels = []struct {
	name string
	p    api.CurlPanel
	e    api.Errno
}{
	{"nothing", api.CurlPanel{}, api.ErrMany},
	{"no sheets, and damp that is not valid", panel(2, 1), api.ErrMany},
	{"one sheet", pulling(1), api.ErrMany},
	{"two sheets", pulling(1, 1), api.ErrMany},
	{"four sheets", pulling(1, 1, 1, 1), api.ErrMany},
	{"six sheets", pulling(1, 1, 1, 1, 1, 1), api.ErrMany},
	{"eight sheets", pulling(1, 1, 1, 1, 1, 1, 1, 1), api.ErrMany},
	{"nine sheets", pulling(1, 1, 1, 1, 1, 1, 1, 1, 1), api.ErrMany},
	{"far too many sheets", pulling(make([]int64, 5001)...), api.ErrMany},
	{"four sheets that are not valid", pulling(-1, 101, -1, 101), api.ErrMany},
	{"nine sheets, and damp that is not valid", panel(0, 51, make([]int64, 18)...), api.ErrMany},
	{"a pull below 0", pulling(-1, 0, 0), api.ErrRange},
	{"too great a pull", pulling(101, 0, 0), api.ErrRange},
	{"too great a pull in the middle", pulling(0, 101, 0), api.ErrRange},
	{"too great a last pull of seven", pulling(0, 0, 0, 0, 0, 0, 101), api.ErrRange},
	{"too great a More", panel(0, 0, 0, 11, 0, 0, 0, 0), api.ErrRange},
	{"too small a More", panel(0, 0, 0, 0, 0, -11, 0, 0), api.ErrRange},
	{"too small a last More", panel(0, 0, 0, 0, 0, 0, 0, -11), api.ErrRange},
	{"damp below 0", panel(-1, 0, 0, 0, 0, 0, 0, 0), api.ErrRange},
	{"all damp below 0", panel(-2, -1, 0, 0, 0, 0, 0, 0), api.ErrRange},
	{"too much damp", panel(0, 51, 0, 0, 0, 0, 0, 0), api.ErrRange},
	{"too much damp at least", panel(51, 51, 0, 0, 0, 0, 0, 0), api.ErrRange},
	{"damp backwards", panel(2, 1, 0, 0, 0, 0, 0, 0), api.ErrRange},
	{"damp backwards by much", panel(50, 0, 0, 0, 0, 0, 0, 0), api.ErrRange},
	{"all damp", panel(math.MinInt64, math.MaxInt64, 0, 0, 0, 0, 0, 0), api.ErrRange},
	{"all damp backwards", panel(math.MaxInt64, math.MinInt64, 0, 0, 0, 0, 0, 0), api.ErrRange},
	{"the greatest numbers", panel(0, 0, math.MaxInt64, math.MaxInt64, 0, 0, 0, 0), api.ErrRange},
	{"the least numbers", panel(0, 0, math.MinInt64, math.MinInt64, 0, 0, 0, 0), api.ErrRange},
	{"the greatest More", panel(0, 0, 0, 0, 0, math.MaxInt64, 0, 0), api.ErrRange},
	{"the least More", panel(0, 0, 0, 0, 0, 0, 0, math.MinInt64), api.ErrRange},
}

// TestCheckPanel is P7.1.
func TestCheckPanel(t *testing.T) {
	for _, x := range badPanels {
		if e := curl.CheckPanel(x.p); e != x.e {
			t.Error(x.name, e)
		}
	}
	each(t, 500, api.MaxCurlSheets, func(_ *rand.Rand, p api.CurlPanel) {
		if e := curl.CheckPanel(p); e != api.OK {
			t.Error(e)
		}
	})
	for n := int64(-60); n < 120; n++ {
		for i, x := range []struct {
			p  api.CurlPanel
			ok bool
		}{
			{pulling(n, 0, 0), 0 <= n && n <= 100},
			{pulling(0, n, 0), 0 <= n && n <= 100},
			{pulling(0, 0, 0, 0, 0, 0, n), 0 <= n && n <= 100},
			{panel(3, 4, 1, n, 1, 0, 1, 0), -10 <= n && n <= 10},
			{panel(3, 4, 1, 0, 1, 0, 1, 0, 1, 0, 1, n), -10 <= n && n <= 10},
			{panel(n, n, 1, 0, 1, 0, 1, 0), 0 <= n && n <= 50},
			{panel(n, 50, 1, 0, 1, 0, 1, 0), 0 <= n && n <= 50},
			{panel(0, n, 1, 0, 1, 0, 1, 0), 0 <= n && n <= 50},
			{panel(7, n, 1, 0, 1, 0, 1, 0), 7 <= n && n <= 50},
		} {
			if e := curl.CheckPanel(x.p); (e == api.OK) != x.ok || !x.ok && e != api.ErrRange {
				t.Error(i, n, e)
			}
		}
	}
	for many := range 20 {
		want := api.ErrMany
		if many == 3 || many == 5 || many == 7 {
			want = api.OK
		}
		if e := curl.CheckPanel(pulling(make([]int64, many)...)); e != want {
			t.Error(many, e)
		}
	}
}

// functions call the functions that are given no order, and report whether they return zero values.
var functions = map[string]func(p api.CurlPanel) (bool, api.Errno){
	"Least": func(p api.CurlPanel) (bool, api.Errno) {
		n, e := curl.Least(p)
		return n == 0, e
	},
	"Order": func(p api.CurlPanel) (bool, api.Errno) {
		list, e := curl.Order(p)
		return len(list) == 0, e
	},
	"Flats": func(p api.CurlPanel) (bool, api.Errno) {
		n, e := curl.Flats(p)
		return n == 0, e
	},
	"Blame": func(p api.CurlPanel) (bool, api.Errno) {
		list, e := curl.Blame(p)
		return len(list) == 0, e
	},
}

// orderFunctions do the same for those that are given one; the damp and the changes are not valid.
var orderFunctions = map[string]func(p api.CurlPanel, order []int) (bool, api.Errno){
	"Moments": func(p api.CurlPanel, order []int) (bool, api.Errno) {
		along, across, e := curl.Moments(p, order, -1)
		return along == 0 && across == 0, e
	},
	"Curl": func(p api.CurlPanel, order []int) (bool, api.Errno) {
		n, e := curl.Curl(p, order)
		return n == 0, e
	},
	"CheckCure": func(p api.CurlPanel, order []int) (bool, api.Errno) {
		n, e := curl.CheckCure(p, order, changes(0, 101, 0))
		return n == 0, e
	},
	"Fewest": func(p api.CurlPanel, order []int) (bool, api.Errno) {
		n, e := curl.Fewest(p, order)
		return n == 0, e
	},
	"Cure": func(p api.CurlPanel, order []int) (bool, api.Errno) {
		list, e := curl.Cure(p, order)
		return len(list) == 0, e
	},
}

// TestErrorsFirst: all functions return the error of CheckPanel before all others, and zero values with it (R1, R2).
func TestErrorsFirst(t *testing.T) {
	for _, x := range badPanels {
		for name, f := range functions {
			if zero, e := f(x.p); !zero || e != x.e {
				t.Error(name, x.name, e)
			}
		}
		for name, f := range orderFunctions {
			for _, order := range [][]int{nil, {0}, {-1}, {0, 1, 2}, {0, 0, 0}, inOrder(len(x.p.Sheets)), make([]int, 5000)} {
				if zero, e := f(x.p, order); !zero || e != x.e {
					t.Error(name, x.name, order, e)
				}
			}
		}
	}
}

// badOrders are lists that are no orders of three sheets, nor of seven.
var badOrders = [][]int{
	nil,
	{},
	{0},
	{0, 1},
	{0, 0, 1},
	{0, 1, 1},
	{1, 0, 1},
	{1, 1, 1},
	{0, 1, 3},
	{1, 2, 3},
	{-1, 0, 1},
	{0, 1, -1},
	{0, 1, 2, 0},
	{0, 1, 2, 3},
	{0, 1, 2, 3, 4, 5, 7},
	{0, 1, 2, 3, 4, 5, 5},
	{0, 1, 2, 3, 4, 5, 0},
	{-1, 1, 2, 3, 4, 5, 6},
	{0, 1, 2, 3, 4, 5, 6, 7},
	{math.MaxInt, 0, 1},
	{0, math.MinInt, 1},
	{0, 1, 2, 3, math.MaxInt, math.MinInt, 6},
	make([]int, 5000),
}

// TestNoOrder: functions with an order return ErrRule if it is none, before errors of the damp or the changes.
func TestNoOrder(t *testing.T) {
	for name, f := range orderFunctions {
		for _, order := range badOrders {
			for _, p := range []api.CurlPanel{panelA(), pulling(0, 1, 3, 9, 27, 81, 100)} {
				if zero, e := f(p, order); !zero || e != api.ErrRule {
					t.Error(name, p, order, e)
				}
			}
		}
		for many, orders := range allOrders() {
			for other := 3; other <= api.MaxCurlSheets; other += 2 {
				p := pulling(make([]int64, other)...)
				if _, e := f(p, orders[len(orders)/3]); (e == api.ErrRule) != (many != other) {
					t.Error(name, many, other, e)
				}
			}
		}
	}
}

// TestOrdersOfAll holds what is an order against all lists of three and four numbers, and of five with few of them.
func TestOrdersOfAll(t *testing.T) {
	var lists [][]int
	for code := range 7 * 7 * 7 * 7 * 7 {
		list := indexes(code%7-1, code/7%7-1, code/49%7-1, code/343%7-1, code/2401-1)
		lists = append(lists, list)
		if code < 2401 {
			lists = append(lists, list[:4])
		}
		if code < 343 {
			lists = append(lists, list[:3])
		}
	}
	good := 0
	for many, orders := range allOrders() {
		for _, list := range lists {
			want := api.ErrRule
			if len(list) == many && slices.ContainsFunc(orders, func(order []int) bool { return slices.Equal(order, list) }) {
				want = api.OK
				good++
			}
			if n, e := curl.Curl(pulling(make([]int64, many)...), list); n != 0 || e != want {
				t.Error(many, list, n, e)
			}
		}
	}
	if good != 6+120 {
		t.Error("not all orders", good)
	}
}
