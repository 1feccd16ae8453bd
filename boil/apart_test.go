package boil_test

import (
	"math"
	"math/rand"
	"slices"
	"testing"

	"crossband/api"
	"crossband/boil"
)

// TestCheckApart is P10.6 for CheckApart: the examples, each error, and which one comes first.
func TestCheckApart(t *testing.T) {
	for i, x := range []struct {
		list  []api.BoilTrial
		apart []int
		e     api.Errno
	}{
		{trialsT(), of(0, 2), api.ErrRule},
		{trialsT(), of(0, 1), api.ErrRange},
		{trialsT(), of(2, 0), api.ErrArg},
		{trialsT(), nil, api.OK},
		{trialsT(), of(0), api.OK},
		{trialsT(), of(2), api.OK},
		{trialsT(), of(3), api.OK},
		{trialsT(), of(1), api.ErrRange},
		{trialsT(), of(4), api.ErrRange},
		{trialsT(), of(0, 3), api.ErrRule},
		{trialsT(), of(2, 3), api.ErrRule},
		{trialsT(), of(0, 2, 3), api.ErrRule},
		{trialsT(), of(0, 2, 4), api.ErrRange}, // not a cause in common first
		{trialsT(), of(0, 1, 1), api.ErrArg},   // not one that held first
		{trialsT(), of(1, 5), api.ErrArg},
		{trialsT(), of(-1, 1), api.ErrArg},
		{trialsT(), of(0, 0), api.ErrArg},
		{trialsT(), of(5), api.ErrArg},
		{trialsT(), of(-1), api.ErrArg},
		{trialsT(), of(0, 2, 3, 2), api.ErrArg},
		{trialsT(), of(math.MaxInt), api.ErrArg},
		{trialsT(), of(math.MinInt), api.ErrArg},
		{trialsT(), make([]int, 5000), api.ErrArg},
		{trialsU(), of(0, 3), api.OK}, // what they have in common is clear
		{trialsU(), of(0, 2), api.ErrRule},
		{trialsU(), of(2, 3), api.ErrRule},
		{trialsV(), of(0, 2, 3), api.OK}, // all is clear
		{trialsV(), of(0, 2, 3, 6), api.ErrRange},
		{nil, nil, api.OK},
		{nil, of(0), api.ErrArg},
		{allApart(), of(0, 1, 2, 3, 4), api.OK},
		{allApart(), of(1, 3), api.OK},
		{trials(0, 0, 0, failed, 0, 0, 0, failed), of(0, 1), api.ErrRule},
		{trials(0, 0, 0, failed, 0, 1, 1, failed), of(0, 1), api.ErrRule},
		{trials(0, 0, 0, failed, 1, 0, 1, failed), of(0, 1), api.ErrRule},
		{trials(0, 0, 0, failed, 1, 1, 0, failed), of(0, 1), api.ErrRule},
		{trials(0, 0, 0, failed, 1, 1, 1, failed, 0, 2, 2, failed), of(0, 1, 2), api.ErrRule}, // the first one and the last one
		{trials(0, 0, 0, failed, 0, 1, 1, failed, 0, 2, 2, held), of(0, 1), api.OK},
		{trials(0, 0, 0, failed, 0, 0, 0, failed, 0, 0, 0, held), of(0, 1), api.OK},
		{slices.Repeat(trials(4, 4, 4, failed), 16), of(15), api.OK},
		{slices.Repeat(trials(4, 4, 4, failed), 16), of(16), api.ErrArg},
	} {
		if e := boil.CheckApart(x.list, x.apart); e != x.e {
			t.Error(i, e)
		}
	}
}

// TestCheckApartOfAll holds P10.6 against lists of all kinds.
func TestCheckApartOfAll(t *testing.T) {
	sorts := map[api.Errno]int{}
	each(t, 2000, full, func(r *rand.Rand, list []api.BoilTrial) {
		longest := told(t, boil.Apart, list)
		for range 5 {
			apart := spoilt(r, longest)
			if r.Intn(4) == 0 {
				apart = members(r.Intn(1<<len(list)) & r.Intn(1<<16))
			}
			want := faultOfApart(list, apart)
			sorts[want]++
			if e := boil.CheckApart(list, apart); e != want {
				t.Error(apart, e, want)
			}
		}
	})
	for _, e := range []api.Errno{api.OK, api.ErrArg, api.ErrRange, api.ErrRule} {
		if sorts[e] < 500 {
			t.Error("too few of a sort", sorts)
		}
	}
}

// TestApart is P10.6 for Apart: the examples, and which list comes first.
func TestApart(t *testing.T) {
	for i, x := range []struct {
		list  []api.BoilTrial
		apart []int
	}{
		{trialsT(), of(0)},
		{trialsU(), of(0, 3)},
		{trialsV(), of(0, 2, 3)},
		{nil, nil},
		{trials(3, 3, 3, held), nil},
		{trials(3, 3, 3, failed), of(0)},
		{trials(3, 3, 3, held, 3, 3, 3, failed), of(1)},
		{trials(3, 3, 3, failed, 3, 3, 3, failed), of(0)},
		{trials(3, 3, 3, failed, 3, 3, 3, failed, 3, 3, 3, held), of(0, 1)},
		{allApart(), of(0, 1, 2, 3, 4)},
		{slices.Repeat(allApart(), 3), of(0, 1, 2, 3, 4)},
		{trials(0, 1, 2, failed, 0, 0, 0, failed, 1, 1, 1, failed), of(1, 2)}, // the first one is near both others
		{trials(0, 0, 0, failed, 0, 1, 1, failed, 1, 1, 2, failed, 2, 2, 2, failed), of(0, 2)},
		{trials(0, 0, 0, failed, 0, 1, 1, failed, 1, 2, 2, failed, 1, 0, 3, failed, 2, 2, 3, failed), of(0, 2)},
		{trials(0, 0, 0, failed, 1, 0, 1, failed, 2, 1, 1, failed, 3, 1, 2, failed, 4, 2, 2, failed), of(0, 2, 4)},
		{trials(0, 0, 0, failed, 1, 1, 0, failed, 1, 2, 2, failed, 2, 1, 1, failed), of(0, 2, 3)},
		{slices.Repeat(trials(4, 4, 4, failed), 16), of(0)},
		{with(slices.Repeat(trials(2, 1, 0, failed), 15), trials(2, 1, 0, held)...), of(0, 1, 2, 3, 4, 5, 6, 7, 8, 9, 10, 11, 12, 13, 14)},
		{trials(0, 0, 0, held, 1, 0, 0, failed, 0, 1, 0, failed, 0, 0, 1, failed, 0, 0, 0, failed), of(1, 2, 3, 4)},
	} {
		if apart := told(t, boil.Apart, x.list); !slices.Equal(apart, x.apart) {
			t.Error(i, apart)
		}
	}
}

// TestApartOfAll holds P10.6 against all lists of trials.
func TestApartOfAll(t *testing.T) {
	sorts := map[int]int{}
	hold := func(_ *rand.Rand, list []api.BoilTrial) {
		want := apartByHand(list)
		sorts[len(want)]++
		if apart := told(t, boil.Apart, list); !slices.Equal(apart, want) {
			t.Error(apart, want)
		}
	}
	each(t, 2000, few, hold)
	each(t, 300, full, hold)
	for many := range 6 {
		if sorts[many] < 50 {
			t.Error("too few of a sort", sorts)
		}
	}
}
