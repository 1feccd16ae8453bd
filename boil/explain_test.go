package boil_test

import (
	"math"
	"math/rand"
	"slices"
	"testing"

	"crossband/api"
	"crossband/boil"
)

// TestAll is P10.4: the examples, and the edges.
func TestAll(t *testing.T) {
	for i, x := range []struct {
		list []api.BoilTrial
		all  [][]int // none: there is no explanation
	}{
		{trialsT(), lists(of(1, 6), of(1, 12), of(6, 12))},
		{trialsU(), lists(of(1, 6))},
		{trialsV(), nil},
		{nil, lists(nil)},
		{trials(3, 3, 3, held), lists(nil)},
		{slices.Repeat(trials(0, 0, 0, held), 16), lists(nil)},
		{trials(1, 2, 3, failed), lists(of(1), of(7), of(13))},
		{trials(1, 2, 3, failed, 1, 2, 3, failed), lists(of(1), of(7), of(13))},
		{trials(1, 2, 3, failed, 1, 2, 3, held), nil},
		{trials(1, 2, 3, held, 1, 2, 3, failed), nil},
		{trials(4, 4, 4, failed), lists(of(4), of(9), of(14))},
		{trials(0, 0, 0, failed), lists(of(0), of(5), of(10))},
		{trials(0, 0, 0, failed, 0, 0, 1, held), lists(of(10))},
		{trials(0, 0, 0, failed, 1, 1, 1, failed), lists(of(0, 1), of(0, 6), of(0, 11), of(1, 5), of(1, 10), of(5, 6), of(5, 11), of(6, 10), of(10, 11))},
		{trials(0, 0, 0, failed, 0, 1, 1, failed, 0, 2, 2, failed), lists(of(0))},
		{trials(0, 0, 0, failed, 0, 1, 1, failed, 0, 2, 2, failed, 0, 4, 4, held), lists(of(5, 6, 7), of(5, 6, 12), of(5, 7, 11), of(5, 11, 12), of(6, 7, 10), of(6, 10, 12), of(7, 10, 11), of(10, 11, 12))},
		{trials(0, 0, 0, held, 1, 0, 0, failed, 0, 1, 0, failed, 0, 0, 1, failed), lists(of(1, 6, 11))},
		{trials(0, 0, 0, failed, 0, 1, 1, failed, 1, 0, 1, failed, 1, 1, 0, failed), lists(of(0, 1), of(5, 6), of(10, 11))}, // none is greater, but smallest
		{oneEach(), lists(of(1, 2, 3, 4, 6, 7, 8, 9, 11, 12, 13, 14))},                                                      // all causes that are not clear
	} {
		all, e := boil.All(x.list)
		n, f := boil.Fewest(x.list)
		if len(x.all) == 0 {
			if len(all) != 0 || e != api.ErrBoil || n != 0 || f != api.ErrBoil {
				t.Error(i, all, e, n, f)
			}
			continue
		}
		if !equal(all, x.all) || e != api.OK || n != len(x.all[0]) || f != api.OK {
			t.Error(i, all, e, n, f)
		}
	}
	all := told(t, boil.All, allApart())
	if len(all) != 243 || !slices.Equal(all[0], of(0, 1, 2, 3, 4)) || !slices.Equal(all[1], of(0, 1, 2, 3, 9)) || !slices.Equal(all[242], of(10, 11, 12, 13, 14)) {
		t.Error(len(all), all)
	}
}

// TestAllOfAll holds P10.4 against all sets of causes.
func TestAllOfAll(t *testing.T) {
	sorts := map[int]int{}
	each(t, 5000, full, func(_ *rand.Rand, list []api.BoilTrial) {
		want := allByHand(list)
		if len(want) == 0 {
			sorts[-1]++
			for _, call := range []string{"Fewest", "All"} {
				if zero, e := functions[call](list, other{}); !zero || e != api.ErrBoil {
					t.Error(call, e)
				}
			}
			return
		}
		sorts[len(want[0])]++
		if all := told(t, boil.All, list); !equal(all, want) {
			t.Error(all, want)
		}
		if n := told(t, boil.Fewest, list); n != len(want[0]) {
			t.Error(n, want)
		}
	})
	for few := -1; few < 6; few++ {
		if sorts[few] < 50 {
			t.Error("too few of a sort", sorts)
		}
	}
}

// TestBlame is P10.7: the examples, each error, and which one comes first.
func TestBlame(t *testing.T) {
	for i, x := range []struct {
		list  []api.BoilTrial
		cause int
		n     int
		e     api.Errno
	}{
		{trialsT(), 1, api.BoilMay, api.OK},
		{trialsT(), 6, api.BoilMay, api.OK},
		{trialsT(), 12, api.BoilMay, api.OK},
		{trialsT(), 0, api.BoilNever, api.OK},
		{trialsT(), 14, api.BoilNever, api.OK},
		{trialsT(), 15, 0, api.ErrArg},
		{trialsT(), -1, 0, api.ErrArg},
		{trialsT(), math.MaxInt, 0, api.ErrArg},
		{trialsT(), math.MinInt, 0, api.ErrArg},
		{trialsU(), 1, api.BoilAlways, api.OK},
		{trialsU(), 6, api.BoilAlways, api.OK},
		{trialsU(), 12, api.BoilNever, api.OK},
		{trialsV(), 1, 0, api.ErrBoil},
		{trialsV(), 15, 0, api.ErrArg},
		{nil, 0, api.BoilNever, api.OK},
		{nil, 14, api.BoilNever, api.OK},
		{nil, 15, 0, api.ErrArg},
		{trials(3, 3, 3, held), 3, api.BoilNever, api.OK},
		{trials(4, 4, 4, failed), 14, api.BoilMay, api.OK},
		{trials(4, 4, 4, failed, 4, 4, 0, held), 14, api.BoilAlways, api.OK},
	} {
		if n, e := boil.Blame(x.list, x.cause); n != x.n || e != x.e {
			t.Error(i, n, e)
		}
	}
}

// TestBlameOfAll holds P10.7 against all smallest explanations.
func TestBlameOfAll(t *testing.T) {
	sorts := map[int]int{}
	each(t, 500, full, func(_ *rand.Rand, list []api.BoilTrial) {
		all := allByHand(list)
		for cause := -2; cause < 18; cause++ {
			want, fault := api.BoilMay, api.OK
			switch n := having(all, cause); {
			case cause < 0 || cause > 14:
				want, fault = 0, api.ErrArg
			case len(all) == 0:
				want, fault = 0, api.ErrBoil
			case n == 0:
				want = api.BoilNever
			case n == len(all):
				want = api.BoilAlways
			}
			if fault == api.OK {
				sorts[want]++
			}
			if n, e := boil.Blame(list, cause); n != want || e != fault {
				t.Error(cause, n, e, want, fault)
			}
		}
	})
	if sorts[api.BoilNever] < 200 || sorts[api.BoilMay] < 200 || sorts[api.BoilAlways] < 200 {
		t.Error("too few of a sort", sorts)
	}
}

// TestFails is P10.8: the examples, each error, and which one comes first.
func TestFails(t *testing.T) {
	for i, x := range []struct {
		list []api.BoilTrial
		p    api.BoilPanel
		n    int
		e    api.Errno
	}{
		{trialsT(), panel(0, 1, 2), 3, api.OK},
		{trialsT(), panel(0, 0, 2), 2, api.OK},
		{trialsT(), panel(0, 0, 0), 0, api.OK},
		{trialsT(), panel(1, 0, 0), 2, api.OK},
		{trialsT(), panel(1, 1, 2), 3, api.OK}, // no explanation counts twice
		{trialsT(), panel(4, 4, 4), 0, api.OK},
		{trialsT(), panel(5, 0, 0), 0, api.ErrRange},
		{trialsT(), panel(0, -1, 0), 0, api.ErrRange},
		{trialsT(), panel(0, 0, 5), 0, api.ErrRange},
		{trialsT(), panel(math.MaxInt, 0, 0), 0, api.ErrRange},
		{trialsT(), panel(0, math.MinInt, 0), 0, api.ErrRange},
		{trialsU(), panel(3, 3, 3), 0, api.OK},
		{trialsU(), panel(3, 1, 3), 1, api.OK},
		{trialsU(), panel(1, 1, 3), 1, api.OK},
		{trialsV(), panel(3, 1, 3), 0, api.ErrBoil},
		{trialsV(), panel(3, 5, 3), 0, api.ErrRange},
		{nil, panel(3, 1, 3), 0, api.OK},
		{nil, panel(3, 1, 5), 0, api.ErrRange},
		{trials(3, 1, 3, held), panel(3, 1, 3), 0, api.OK},
		{allApart(), panel(0, 0, 0), 243, api.OK},
		{allApart(), panel(0, 1, 2), 171, api.OK},
		{allApart(), panel(0, 0, 4), 189, api.OK},
	} {
		if n, e := boil.Fails(x.list, x.p); n != x.n || e != x.e {
			t.Error(i, n, e)
		}
	}
	eachNumber(func(p api.BoilPanel, ok bool) {
		if n, e := boil.Fails(trialsT(), p); (e == api.OK) != ok || !ok && (n != 0 || e != api.ErrRange) {
			t.Error(p, n, e)
		}
	})
}

// TestFailsOfAll holds P10.8 against all smallest explanations.
func TestFailsOfAll(t *testing.T) {
	sorts := map[string]int{}
	each(t, 500, full, func(r *rand.Rand, list []api.BoilTrial) {
		all := allByHand(list)
		for range 10 {
			p := randomPanel(r, 5)
			if len(list) > 0 && r.Intn(2) == 0 {
				p = list[r.Intn(len(list))].Panel
			}
			want := number(all, p)
			switch n, e := boil.Fails(list, p); {
			case n != want || (e == api.OK) != (len(all) > 0) || e != api.OK && e != api.ErrBoil:
				t.Error(p, n, e, want)
			case e != api.OK:
				sorts["none"]++
			case n == 0:
				sorts["by none"]++
			case n == len(all):
				sorts["by all"]++
			default:
				sorts["by some"]++
			}
		}
	})
	for _, sort := range []string{"none", "by none", "by all", "by some"} {
		if sorts[sort] < 200 {
			t.Error("too few of a sort", sorts)
		}
	}
}

// TestNext is P10.9: the examples, the edges, and which panel comes first.
func TestNext(t *testing.T) {
	for i, x := range []struct {
		list []api.BoilTrial
		p    api.BoilPanel
		n    int
		e    api.Errno
	}{
		{trialsT(), panel(0, 0, 2), 1, api.OK},
		{trialsU(), panel(0, 0, 0), 0, api.ErrNone},
		{trialsV(), panel(0, 0, 0), 0, api.ErrBoil},
		{nil, panel(0, 0, 0), 0, api.ErrNone},
		{trials(3, 3, 3, held), panel(0, 0, 0), 0, api.ErrNone},
		{trials(1, 2, 3, failed), panel(0, 0, 3), 1, api.OK},
		{trials(0, 0, 0, failed), panel(0, 0, 1), 1, api.OK}, // 0 0 0 fails by all
		{trials(0, 0, 0, failed, 1, 1, 1, failed), panel(0, 1, 2), 4, api.OK},
		{trials(0, 0, 0, failed, 0, 1, 1, failed, 0, 2, 2, failed), panel(0, 0, 0), 0, api.ErrNone},
		{trials(1, 2, 3, failed, 1, 2, 0, held), panel(0, 0, 0), 0, api.ErrNone},
		{trials(4, 4, 4, failed, 4, 0, 0, held), panel(0, 0, 4), 1, api.OK},
		{trials(4, 4, 4, failed, 0, 0, 4, held), panel(0, 4, 0), 1, api.OK},
	} {
		if p, n, e := boil.Next(x.list); p != x.p || n != x.n || e != x.e {
			t.Error(i, p, n, e)
		}
	}
}

// TestNextOfAll holds P10.9 against all panels.
func TestNextOfAll(t *testing.T) {
	sorts := map[int]int{}
	each(t, 1000, full, func(_ *rand.Rand, list []api.BoilTrial) {
		all, fault := allByHand(list), api.OK
		want, most := nextByHand(all)
		switch {
		case len(all) == 0:
			fault = api.ErrBoil
		case most == 0:
			fault = api.ErrNone
		}
		if fault != api.ErrBoil {
			sorts[min(most, 5)]++
		}
		if p, n, e := boil.Next(list); p != want || n != most || e != fault {
			t.Error(p, n, e, want, most, fault)
		}
	})
	for many := range 6 {
		if sorts[many] < 20 {
			t.Error("too few of a sort", sorts)
		}
	}
}
