package curl_test

import (
	"math"
	"math/rand"
	"slices"
	"testing"

	"crossband/api"
	"crossband/curl"
)

// TestCheckCure is P7.4: the examples, each error, and which one comes first.
func TestCheckCure(t *testing.T) {
	c, one := panelC(), indexes(0, 2, 1)
	far := []api.CurlChange{{Sheet: 0, To: sheet(math.MaxInt64, 0)}}
	for i, x := range []struct {
		p     api.CurlPanel
		order []int
		list  []api.CurlChange
		n     int
		e     api.Errno
	}{
		{c, one, changes(0, 5, 0), 1, api.OK},
		{c, one, changes(1, 3, 0), 1, api.OK},
		{c, one, changes(2, 1, 0), 0, api.ErrCurl},
		{c, one, changes(0, 101, 0), 0, api.ErrRange},
		{c, one, nil, 0, api.ErrCurl},
		{c, one, changes(), 0, api.ErrCurl},
		{panelA(), indexes(0, 1, 2), nil, 0, api.OK},
		{panelA(), indexes(0, 1, 2), changes(1, 100, -10), 1, api.OK},
		{panelA(), indexes(0, 1, 2), changes(0, 10, 1, 1, 5, 0, 2, 10, 1), 3, api.OK}, // to the same sheets
		{panelA(), indexes(0, 1, 2), changes(0, 9, 1, 2, 9, 1), 2, api.OK},
		{panelA(), indexes(0, 1, 2), changes(0, 9, 1), 0, api.ErrCurl},
		{panelA(), indexes(0, 1, 2), changes(0, 10, 0), 0, api.ErrCurl}, // flat at damp 0 only
		{panel(4, 4, 10, 1, 5, 0, 10, 1), indexes(0, 1, 2), changes(0, 14, 0), 1, api.OK},
		{panel(3, 4, 10, 1, 5, 0, 10, 1), indexes(0, 1, 2), changes(0, 14, 0), 0, api.ErrCurl},
		{panelE(), indexes(1, 0, 2, 3, 4), changes(0, 6, 0, 4, 6, 0), 2, api.OK},
		{panelE(), indexes(1, 0, 2, 3, 4), changes(0, 6, 0), 0, api.ErrCurl}, // across only
		{panelE(), indexes(1, 0, 2, 3, 4), changes(4, 6, 0), 0, api.ErrCurl}, // along only
		{c, one, changes(0, -1, 0), 0, api.ErrRange},
		{c, one, changes(0, 5, 11), 0, api.ErrRange},
		{c, one, changes(0, 5, -11), 0, api.ErrRange},
		{c, one, changes(-1, 5, 0), 0, api.ErrRange},
		{c, one, changes(3, 5, 0), 0, api.ErrRange},
		{c, one, changes(math.MinInt, 5, 0), 0, api.ErrRange},
		{c, one, changes(math.MaxInt, 5, 0), 0, api.ErrRange},
		{c, one, changes(0, 5, 0, 0, 5, 0), 0, api.ErrRange},
		{c, one, changes(1, 3, 0, 0, 3, 0), 0, api.ErrRange},
		{c, one, changes(0, 5, 0, 3, 5, 0), 0, api.ErrRange},
		{c, one, changes(0, 5, 0, 2, 101, 0), 0, api.ErrRange},
		{c, one, changes(0, 5, 0, 1, 5, 0, 2, 8, 0, 2, 8, 0), 0, api.ErrRange},
		{c, one, changes(2, 1, 0, 1, 1, 0), 0, api.ErrRange}, // does not cure either
		{c, one, far, 0, api.ErrRange},
		{c, one, make([]api.CurlChange, 5000), 0, api.ErrRange},
		{c, indexes(0, 2, 2), changes(0, 101, 0), 0, api.ErrRule},
		{c, indexes(0, 2, 2), changes(0, 5, 0), 0, api.ErrRule},
	} {
		if n, e := curl.CheckCure(x.p, x.order, x.list); n != x.n || e != x.e {
			t.Error(i, n, e)
		}
	}
}

// TestCheckCureOfSome holds P7.4 against the curls of panels with the changes.
func TestCheckCureOfSome(t *testing.T) {
	sorts := map[api.Errno]int{}
	each(t, 3000, api.MaxCurlSheets, func(r *rand.Rand, p api.CurlPanel) {
		for range 5 {
			order, list := r.Perm(len(p.Sheets)), randomChanges(r, p)
			n, want := len(list), api.OK
			if curlByHand(changed(p, list), order) != 0 {
				n, want = 0, api.ErrCurl
			}
			if len(list) > 0 && r.Intn(10) == 0 {
				list[r.Intn(len(list))].To.Pull = 101
				n, want = 0, api.ErrRange
			}
			sorts[want]++
			if m, e := curl.CheckCure(p, order, list); m != n || e != want {
				t.Error(order, list, m, e, n, want)
			}
		}
	})
	for _, e := range []api.Errno{api.OK, api.ErrCurl, api.ErrRange} {
		if sorts[e] < 300 {
			t.Error("too few of a sort", sorts)
		}
	}
}

// checkCure checks that Fewest returns a number, and Cure as many changes that cure the order.
func checkCure(t *testing.T, p api.CurlPanel, order []int, want int) {
	t.Helper()
	if n := fewest(t, p, order); n != want {
		t.Error("fewest", p, order, n, want)
	}
	list := toldOf(t, curl.Cure, p, order)
	if n, e := curl.CheckCure(p, order, list); len(list) != want || n != want || e != api.OK {
		t.Error("cure", p, order, list, n, e, want)
	}
}

// TestCure is P7.5: the examples, and orders where it is seen at once.
func TestCure(t *testing.T) {
	for i, x := range []struct {
		p     api.CurlPanel
		order []int
		n     int
	}{
		{panelC(), indexes(0, 2, 1), 1},
		{panelA(), indexes(0, 1, 2), 0},
		{panelE(), indexes(1, 0, 2, 3, 4), 2},
		{panelA(), indexes(1, 0, 2), 1},
		{panelE(), indexes(0, 1, 4, 3, 2), 1},
		{panelE(), indexes(0, 1, 2, 4, 3), 2},
		{pulling(1, 2, 3, 4, 3, 2, 1), indexes(0, 1, 2, 3, 4, 5, 6), 0},
		{pulling(0, 0, 0, 0, 1, 0, 0), indexes(0, 1, 2, 3, 4, 5, 6), 1},
		{pulling(0, 0, 0, 0, 94, 0, 2), indexes(0, 1, 2, 3, 4, 5, 6), 1}, // 2 to 100
		{pulling(0, 0, 0, 0, 95, 0, 2), indexes(0, 1, 2, 3, 4, 5, 6), 2}, // not to 101
		{pulling(0, 0, 0, 0, 100, 0, 100), indexes(0, 1, 2, 3, 4, 5, 6), 2},
		{pulling(0, 0, 0, 0, 90, 0, 70), indexes(0, 1, 2, 3, 4, 5, 6), 1},           // 0 to 100
		{pulling(0, 0, 0, 0, 91, 0, 70), indexes(0, 1, 2, 3, 4, 5, 6), 2},           // not to 100 and a third
		{pulling(0, 0, 0, 0, 93, 0, 70), indexes(0, 1, 2, 3, 4, 5, 6), 2},           // not to 101
		{pulling(0, 50, 0, 0, 100, 0, 100), indexes(0, 1, 2, 3, 4, 5, 6), 3},        // and one across
		{pulling(0, 50, 0, 0, 94, 0, 2), indexes(0, 1, 2, 3, 4, 5, 6), 2},           // one along and one across
		{pulling(0, 50, 0, 0, 0, 0, 0), indexes(0, 1, 2, 3, 4, 5, 6), 1},            // one across
		{pulling(0, 50, 0, 99, 0, 50, 0), indexes(0, 1, 2, 3, 4, 5, 6), 0},          // the middle does nothing
		{panel(0, 0, 0, 0, 0, 0, 0, 0, 0, 0, 93, 0, 0, 0, 70, 0), inOrder(7), 2},    // at damp 0 no More helps
		{panel(1, 1, 0, 0, 0, 0, 0, 0, 0, 0, 93, 0, 0, 0, 70, 0), inOrder(7), 1},    // at damp 1 a sheet of 91 10 pulls 101
		{panel(1, 2, 0, 0, 0, 0, 0, 0, 0, 0, 93, 0, 0, 0, 70, 0), inOrder(7), 2},    // but at damp 2 it pulls 111
		{panel(0, 9, 0, 0, 0, 0, 0, 0, 0, 0, 90, 10, 0, 0, 70, 7), inOrder(7), 2},   // 100 10 would leave 1 for each step: 31 thirds are none
		{panel(0, 9, 0, 0, 0, 0, 0, 0, 0, 0, 90, 9, 0, 0, 70, 7), inOrder(7), 1},    // to 100 10
		{panel(0, 9, 0, 0, 0, 0, 0, 0, 0, 0, 90, -9, 0, 0, 70, -7), inOrder(7), 1},  // to 100 -10
		{panel(0, 9, 0, 0, 0, 0, 0, 0, 0, 0, 90, -10, 0, 0, 70, -7), inOrder(7), 2}, // not to thirds
		{panel(50, 50, 0, 10, 0, 0, 0, 0, 0, 0, 0, 0, 0, 0, 0, -10), inOrder(7), 1},
		{panel(50, 50, 0, 10, 0, 0, 0, 0, 0, 0, 0, -10, 0, 0, 0, 0), inOrder(7), 2}, // no sheet pulls 666
		{panel(50, 50, 0, -10, 0, 0, 0, 0, 0, 0, 0, 0, 0, 0, 100, 10), inOrder(7), 1},
		{panel(50, 50, 0, -10, 0, 0, 0, 0, 0, 0, 100, 10, 0, 0, 100, 10), inOrder(7), 2},
	} {
		checkCure(t, x.p, x.order, x.n)
		if t.Failed() {
			t.Fatal(i)
		}
	}
}

// TestCureOfAll holds P7.5 against a search that looks at Pulls and Mores by themselves.
func TestCureOfAll(t *testing.T) {
	sorts := map[int]int{}
	each(t, 600, api.MaxCurlSheets, func(r *rand.Rand, p api.CurlPanel) {
		order := r.Perm(len(p.Sheets))
		if r.Intn(4) == 0 {
			order = told(t, curl.Order, p)
		}
		want := fewestByHand(p, order)
		sorts[want]++
		checkCure(t, p, order, want)
	})
	for n := range 4 {
		if sorts[n] < 20 {
			t.Error("too few of a sort", sorts)
		}
	}
}

// sharpPanel returns a panel of seven sheets most of which are at the limits or near them, so that two changes have to be great to be enough.
func sharpPanel(r *rand.Rand) api.CurlPanel {
	p := api.CurlPanel{Damp: to(r.Int63n(4), r.Int63n(2)*api.MaxCurlDamp)}
	p.Damp.Hi = max(p.Damp.Lo, p.Damp.Hi)
	for range api.MaxCurlSheets {
		pull := longs(0, r.Int63n(6), r.Int63n(101), 100-r.Int63n(6), 100)[r.Intn(5)]
		more := longs(-10, r.Int63n(21)-10, 0, 10)[r.Intn(4)]
		p.Sheets = append(p.Sheets, sheet(pull, more))
	}
	return p
}

// TestCureOfSharp does the same with sheets near the limits.
func TestCureOfSharp(t *testing.T) {
	r := rand.New(rand.NewSource(7))
	for range 600 {
		p := sharpPanel(r)
		order := r.Perm(len(p.Sheets))
		checkCure(t, p, order, fewestByHand(p, order))
	}
	// A panel where one of two changes along has to have more than half of the greatest moment that there can be at its place.
	p := panel(0, 50, 100, 10, 97, -10, 98, 10, 97, 0, 35, -10, 0, 10, 100, -10)
	checkCure(t, p, inOrder(len(p.Sheets)), 3)
}

// TestBlame is P7.6: the examples, and panels where it is seen at once.
func TestBlame(t *testing.T) {
	for i, x := range []struct {
		p    api.CurlPanel
		list []int
	}{
		{panelC(), indexes(0, 1, 2)},
		{panelA(), indexes(0, 1, 2)},
		{panelE(), indexes(0, 1, 2, 3, 4)},
		{pulling(0, 10, 20, 40, 80), nil},
		{pulling(0, 0, 10, 40, 40), indexes(0, 1, 2, 3, 4)},
		{pulling(0, 0, 10, 30, 40), indexes(2, 3, 4)}, // only those of 0 are a pair, so it is one of the others that is changed
		{pulling(5, 5, 5, 5, 5, 5, 5), indexes(0, 1, 2, 3, 4, 5, 6)},
		{panel(0, 1, 0, 1, 0, 2, 0, 4, 0, 8, 10, 0), nil},
	} {
		if want := blameByHand(x.p, permutations(len(x.p.Sheets))); !slices.Equal(want, x.list) {
			t.Error(i, "by hand", want)
		}
		if list := blame(t, x.p); !slices.Equal(list, x.list) {
			t.Error(i, list)
		}
	}
}

// TestBlameOfAll holds P7.6 against a search that looks at Pulls and Mores by themselves, in all orders.
func TestBlameOfAll(t *testing.T) {
	all := allOrders()
	sorts := map[string]int{}
	each(t, 120, api.MaxCurlSheets, func(_ *rand.Rand, p api.CurlPanel) {
		want := blameByHand(p, all[len(p.Sheets)])
		switch len(want) {
		case 0:
			sorts["none"]++
		case len(p.Sheets):
			sorts["all"]++
		default:
			sorts["some"]++
		}
		if list := blame(t, p); !slices.Equal(list, want) {
			t.Error(list, want)
		}
	})
	if sorts["none"] < 5 || sorts["some"] < 5 || sorts["all"] < 50 {
		t.Error("too few of a sort", sorts)
	}
}

// TestBlameBySheets holds P7.6 against all valid sheets in the place of each one, for panels of five.
func TestBlameBySheets(t *testing.T) {
	orders, r := permutations(5), rand.New(rand.NewSource(5))
	for range 12 {
		p := randomPanel(r, 5)
		var want []int
		for i := range p.Sheets {
			if canBlame(p, orders, i) {
				want = append(want, i)
			}
		}
		if list := blame(t, p); !slices.Equal(list, want) {
			t.Error(p, list, want)
		}
	}
}

// canBlame reports whether a panel is flat by some order, with some sheet in the place of one.
func canBlame(p api.CurlPanel, orders [][]int, at int) bool {
	other := copied(p)
	for pull := range int64(101) {
		for more := int64(-10); more <= 10; more++ {
			other.Sheets[at] = sheet(pull, more)
			for _, order := range orders {
				m, n := momentsByHand(other, order, p.Damp.Lo)
				if m != 0 || n != 0 {
					continue
				}
				if m, n = momentsByHand(other, order, p.Damp.Hi); m == 0 && n == 0 {
					return true
				}
			}
		}
	}
	return false
}
