package boil_test

import (
	"math"
	"math/rand"
	"slices"
	"testing"

	"crossband/api"
	"crossband/boil"
)

// badTrials are trials that are not valid, with their errors; of several errors the one named first (R1).
var badTrials = []struct {
	name string
	list []api.BoilTrial
	e    api.Errno
}{
	{"17 trials", slices.Repeat(trials(0, 0, 0, failed), 17), api.ErrMany},
	{"17 trials that held", slices.Repeat(trials(0, 0, 0, held), 17), api.ErrMany},
	{"17 trials, none of them valid", slices.Repeat(trials(-1, 5, 9, failed), 17), api.ErrMany},
	{"17 trials, the first one not valid", with(trials(5, 0, 0, held), slices.Repeat(trials(0, 0, 0, failed), 16)...), api.ErrMany},
	{"far too many trials", make([]api.BoilTrial, 5000), api.ErrMany},
	{"a mix below 0", trials(-1, 0, 0, failed), api.ErrRange},
	{"an opening below 0", trials(0, -1, 0, failed), api.ErrRange},
	{"an hour below 0", trials(0, 0, -1, failed), api.ErrRange},
	{"too great a mix", trials(5, 0, 0, failed), api.ErrRange},
	{"too great an opening", trials(0, 5, 0, failed), api.ErrRange},
	{"too great an hour", trials(0, 0, 5, failed), api.ErrRange},
	{"too great an hour of one that held", trials(0, 0, 5, held), api.ErrRange},
	{"the last of three", trials(0, 0, 0, failed, 1, 1, 1, held, 1, 5, 1, held), api.ErrRange},
	{"the first of three", trials(0, 0, 7, failed, 1, 1, 1, held, 1, 3, 1, held), api.ErrRange},
	{"the last of 16", with(slices.Repeat(trials(4, 4, 4, failed), 15), trials(4, 4, 14, failed)...), api.ErrRange},
	{"one that cannot be explained before it", trials(0, 0, 0, failed, 0, 0, 0, held, 5, 0, 0, failed), api.ErrRange},
	{"the greatest numbers", trials(math.MaxInt, math.MaxInt, math.MaxInt, failed), api.ErrRange},
	{"the least numbers", trials(math.MinInt, math.MinInt, math.MinInt, held), api.ErrRange},
	{"the greatest mix", trials(math.MaxInt, 0, 0, failed), api.ErrRange},
	{"the least hour", trials(0, 0, math.MinInt, failed), api.ErrRange},
}

// TestCheckTrials is P10.1 for CheckTrials.
func TestCheckTrials(t *testing.T) {
	for _, x := range badTrials {
		if e := boil.CheckTrials(x.list); e != x.e {
			t.Error(x.name, e)
		}
	}
	each(t, 1000, full, func(_ *rand.Rand, list []api.BoilTrial) {
		if e := boil.CheckTrials(list); e != api.OK {
			t.Error(e)
		}
	})
	for many := range 30 {
		want := api.OK
		if many > 16 {
			want = api.ErrMany
		}
		if e := boil.CheckTrials(make([]api.BoilTrial, many)); e != want {
			t.Error(many, e)
		}
	}
	eachNumber(func(p api.BoilPanel, ok bool) {
		want := api.OK
		if !ok {
			want = api.ErrRange
		}
		for _, fails := range []bool{true, false} {
			if e := boil.CheckTrials([]api.BoilTrial{boiled(p, fails)}); e != want {
				t.Error(p, e)
			}
			if e := boil.CheckTrials(with(trialsT(), boiled(p, fails))); e != want {
				t.Error("the last one", p, e)
			}
		}
	})
}

// eachNumber calls f with panels of which one number at most is not as described, and with whether it is.
func eachNumber(f func(p api.BoilPanel, ok bool)) {
	for n := -4; n < 12; n++ {
		ok := 0 <= n && n <= 4
		for _, m := range of(0, 2, 4) {
			f(panel(n, m, 0), ok)
			f(panel(m, n, m), ok)
			f(panel(4, m, n), ok)
		}
	}
}

// TestCauses is P10.1 for Causes.
func TestCauses(t *testing.T) {
	for i, x := range []struct {
		p      api.BoilPanel
		causes []int
		e      api.Errno
	}{
		{panel(1, 2, 2), of(1, 7, 12), api.OK},
		{panel(5, 0, 0), nil, api.ErrRange},
		{panel(0, 0, 0), of(0, 5, 10), api.OK},
		{panel(4, 4, 4), of(4, 9, 14), api.OK},
		{panel(4, 0, 0), of(4, 5, 10), api.OK},
		{panel(0, 4, 0), of(0, 9, 10), api.OK},
		{panel(0, 0, 4), of(0, 5, 14), api.OK},
		{panel(-1, 0, 0), nil, api.ErrRange},
		{panel(0, 5, 0), nil, api.ErrRange},
		{panel(0, -1, 0), nil, api.ErrRange},
		{panel(0, 0, 5), nil, api.ErrRange},
		{panel(0, 0, -1), nil, api.ErrRange},
		{panel(0, 0, math.MaxInt), nil, api.ErrRange},
		{panel(0, math.MaxInt-4, 0), nil, api.ErrRange},
		{panel(math.MinInt, 0, 0), nil, api.ErrRange},
	} {
		if list, e := boil.Causes(x.p); !slices.Equal(list, x.causes) || e != x.e {
			t.Error(i, list, e)
		}
	}
	eachPanel(func(p api.BoilPanel) {
		if list, e := boil.Causes(p); !slices.Equal(list, causesByHand(p)) || e != api.OK {
			t.Error(p, list, e)
		}
	})
	eachNumber(func(p api.BoilPanel, ok bool) {
		if list, e := boil.Causes(p); (e == api.OK) != ok || !ok && (e != api.ErrRange || len(list) > 0) {
			t.Error(p, list, e)
		}
	})
}

// TestClear is P10.2.
func TestClear(t *testing.T) {
	for i, x := range []struct {
		list, clear []int
	}{
		{nil, nil},
		{of(3, 3, 3, failed), nil},
		{of(3, 3, 3, held), of(3, 8, 13)},
		{of(3, 3, 3, held, 3, 3, 3, held), of(3, 8, 13)},
		{of(3, 3, 3, held, 3, 3, 3, failed), of(3, 8, 13)},
		{of(4, 0, 2, held, 0, 4, 2, held), of(0, 4, 5, 9, 12)},
		{of(4, 4, 4, failed, 1, 0, 0, held), of(1, 5, 10)},
		{of(0, 1, 2, held, 3, 4, 0, held, 1, 2, 3, held, 4, 0, 1, held, 2, 3, 4, held), of(0, 1, 2, 3, 4, 5, 6, 7, 8, 9, 10, 11, 12, 13, 14)},
	} {
		if list := told(t, boil.Clear, trials(x.list...)); !slices.Equal(list, x.clear) {
			t.Error(i, list)
		}
	}
	if list := told(t, boil.Clear, trialsT()); !slices.Equal(list, of(0, 2, 5, 7, 10)) {
		t.Error("T", list)
	}
	each(t, 2000, full, func(_ *rand.Rand, list []api.BoilTrial) {
		if clear := told(t, boil.Clear, list); !slices.Equal(clear, clearByHand(list)) {
			t.Error(clear)
		}
	})
}

// TestCheckCauses is P10.3: the examples, each error, and which one comes first.
func TestCheckCauses(t *testing.T) {
	for i, x := range []struct {
		list   []api.BoilTrial
		causes []int
		e      api.Errno
	}{
		{trialsT(), of(1, 6), api.OK},
		{trialsT(), of(6), api.ErrBoil},
		{trialsT(), of(0, 1, 6), api.ErrRule},
		{trialsT(), of(6, 1), api.ErrArg},
		{trialsT(), of(1, 12), api.OK},
		{trialsT(), of(6, 12), api.OK},
		{trialsT(), of(1, 6, 12), api.OK},
		{trialsT(), of(1, 6, 14), api.OK}, // not one of the smallest
		{trialsT(), of(1, 3, 4, 6, 8, 9, 11, 12, 13, 14), api.OK},
		{trialsT(), nil, api.ErrBoil},
		{trialsT(), of(1), api.ErrBoil},
		{trialsT(), of(12), api.ErrBoil},
		{trialsT(), of(3, 4, 8, 9, 11, 13, 14), api.ErrBoil},
		{trialsT(), of(0), api.ErrRule},  // not too few first
		{trialsT(), of(10), api.ErrRule}, // a cause of one that failed, too
		{trialsT(), of(1, 6, 10), api.ErrRule},
		{trialsT(), of(0, 1, 1), api.ErrArg}, // not clear first
		{trialsT(), of(0, 15), api.ErrArg},
		{trialsT(), of(-1, 0), api.ErrArg},
		{trialsT(), of(1, 1), api.ErrArg},
		{trialsT(), of(1, 6, 6), api.ErrArg},
		{trialsT(), of(1, 6, 15), api.ErrArg},
		{trialsT(), of(-1, 1, 6), api.ErrArg},
		{trialsT(), of(1, 6, 12, 6), api.ErrArg},
		{trialsT(), of(math.MaxInt), api.ErrArg},
		{trialsT(), of(math.MinInt), api.ErrArg},
		{trialsT(), of(1, 6, 1<<16+12), api.ErrArg},
		{trialsT(), make([]int, 5000), api.ErrArg},
		{trialsU(), of(1, 6), api.OK},
		{trialsU(), of(1, 12), api.ErrRule},
		{trialsV(), of(1, 6), api.ErrRule},
		{trialsV(), of(3), api.ErrBoil},
		{trialsV(), nil, api.ErrBoil},
		{nil, nil, api.OK},
		{nil, of(0), api.OK},
		{nil, of(14), api.OK},
		{nil, of(15), api.ErrArg},
		{nil, of(0, 1, 2, 3, 4, 5, 6, 7, 8, 9, 10, 11, 12, 13, 14), api.OK},
		{nil, of(0, 1, 2, 3, 4, 5, 6, 7, 8, 9, 10, 11, 12, 13, 14, 14), api.ErrArg},
		{trials(3, 3, 3, held), nil, api.OK},
		{trials(3, 3, 3, held), of(8), api.ErrRule},
		{trials(3, 3, 3, held), of(9), api.OK},
		{allApart(), of(0, 1, 2, 3, 4), api.OK},
		{allApart(), of(5, 6, 7, 8, 9), api.OK},
		{allApart(), of(0, 1, 7, 8, 14), api.OK},
		{allApart(), of(0, 1, 2, 8, 13), api.ErrBoil},
	} {
		if e := boil.CheckCauses(x.list, x.causes); e != x.e {
			t.Error(i, e)
		}
	}
}

// spoilt returns a list of numbers that may not be right any more.
func spoilt(r *rand.Rand, list []int) []int {
	out := slices.Clone(list)
	for range r.Intn(3) {
		switch i := r.Intn(len(out) + 1); {
		case r.Intn(2) == 0:
			out = slices.Insert(out, i, r.Intn(18)-1)
		case i == len(out):
			slices.Reverse(out)
		case r.Intn(2) == 0:
			out = slices.Delete(out, i, i+1)
		default:
			out[i] += 1 - 2*r.Intn(2)
		}
		if r.Intn(4) > 0 {
			slices.Sort(out)
		}
		if r.Intn(4) > 0 {
			out = slices.Compact(out)
		}
	}
	return out
}

// TestCheckCausesOfAll holds P10.3 against causes of all kinds.
func TestCheckCausesOfAll(t *testing.T) {
	sorts := map[api.Errno]int{}
	each(t, 2000, full, func(r *rand.Rand, list []api.BoilTrial) {
		all, _ := boil.All(list)
		for range 5 {
			causes := members(r.Intn(1<<15) & r.Intn(1<<15))
			if len(all) > 0 && r.Intn(4) > 0 {
				causes = spoilt(r, all[r.Intn(len(all))])
			}
			want := faultOfCauses(list, causes)
			sorts[want]++
			if e := boil.CheckCauses(list, causes); e != want {
				t.Error(causes, e, want)
			}
		}
	})
	for _, e := range []api.Errno{api.OK, api.ErrArg, api.ErrRule, api.ErrBoil} {
		if sorts[e] < 500 {
			t.Error("too few of a sort", sorts)
		}
	}
}

// TestUnclear is P10.5.
func TestUnclear(t *testing.T) {
	for i, x := range []struct {
		list []api.BoilTrial
		n    int
		e    api.Errno
	}{
		{trialsT(), 0, api.ErrNone},
		{trialsU(), 0, api.ErrNone},
		{trialsV(), 0, api.OK},
		{nil, 0, api.ErrNone},
		{trials(0, 0, 0, failed), 0, api.ErrNone},
		{trials(0, 0, 0, held), 0, api.ErrNone}, // all its causes are clear, but it held
		{trials(0, 0, 0, held, 0, 0, 0, failed), 1, api.OK},
		{trials(0, 0, 0, failed, 0, 0, 0, held), 0, api.OK},
		{trials(0, 0, 0, held, 1, 0, 0, failed, 0, 1, 0, failed, 0, 0, 1, failed), 0, api.ErrNone},
		{trials(0, 1, 1, held, 1, 0, 1, held, 1, 1, 0, held, 2, 0, 0, failed, 0, 0, 0, failed, 1, 1, 1, failed), 4, api.OK},
		{trials(0, 1, 1, held, 2, 0, 0, failed, 1, 0, 1, failed, 0, 0, 0, failed, 1, 1, 1, failed, 0, 1, 1, failed), 5, api.OK},
		{with(slices.Repeat(trials(1, 2, 3, failed), 14), trials(4, 4, 4, failed, 4, 4, 4, held)...), 14, api.OK},
		{with(slices.Repeat(trials(1, 2, 3, held), 15), trials(1, 2, 3, failed)...), 15, api.OK},
	} {
		if n, e := boil.Unclear(x.list); n != x.n || e != x.e {
			t.Error(i, n, e)
		}
	}
	sorts := map[bool]int{}
	each(t, 3000, full, func(_ *rand.Rand, list []api.BoilTrial) {
		want, fault := unclearByHand(list), api.OK
		sorts[want < 0]++
		if want < 0 {
			want, fault = 0, api.ErrNone
		}
		if n, e := boil.Unclear(list); n != want || e != fault {
			t.Error(n, e, want)
		}
	})
	if sorts[true] < 500 || sorts[false] < 500 {
		t.Error("too few of a sort", sorts)
	}
}

// other is what functions are given besides trials.
type other struct {
	causes, apart []int
	cause         int
	panel         api.BoilPanel
}

// functions call each function with trials, and report whether it returns zero values.
var functions = map[string]func(list []api.BoilTrial, o other) (bool, api.Errno){
	"Clear": func(list []api.BoilTrial, _ other) (bool, api.Errno) {
		clear, e := boil.Clear(list)
		return len(clear) == 0, e
	},
	"CheckCauses": func(list []api.BoilTrial, o other) (bool, api.Errno) {
		return true, boil.CheckCauses(list, o.causes)
	},
	"Fewest": func(list []api.BoilTrial, _ other) (bool, api.Errno) {
		n, e := boil.Fewest(list)
		return n == 0, e
	},
	"All": func(list []api.BoilTrial, _ other) (bool, api.Errno) {
		all, e := boil.All(list)
		return len(all) == 0, e
	},
	"Unclear": func(list []api.BoilTrial, _ other) (bool, api.Errno) {
		n, e := boil.Unclear(list)
		return n == 0, e
	},
	"CheckApart": func(list []api.BoilTrial, o other) (bool, api.Errno) {
		return true, boil.CheckApart(list, o.apart)
	},
	"Apart": func(list []api.BoilTrial, _ other) (bool, api.Errno) {
		apart, e := boil.Apart(list)
		return len(apart) == 0, e
	},
	"Blame": func(list []api.BoilTrial, o other) (bool, api.Errno) {
		n, e := boil.Blame(list, o.cause)
		return n == 0, e
	},
	"Fails": func(list []api.BoilTrial, o other) (bool, api.Errno) {
		n, e := boil.Fails(list, o.panel)
		return n == 0, e
	},
	"Next": func(list []api.BoilTrial, _ other) (bool, api.Errno) {
		p, n, e := boil.Next(list)
		return p == (api.BoilPanel{}) && n == 0, e
	},
}

// TestErrorsFirst: all functions return the error of CheckTrials before their own ones, and zero values with it (R1, R2).
func TestErrorsFirst(t *testing.T) {
	for _, x := range badTrials {
		for call, f := range functions {
			for _, o := range []other{
				{},
				{of(0), of(0), 3, panel(1, 1, 1)},
				{of(1, 0), of(1, 0), -1, panel(-1, 0, 0)},
				{of(15), of(17), 15, panel(0, 0, 5)},
				{make([]int, 5000), make([]int, 5000), math.MaxInt, panel(math.MaxInt, math.MinInt, 0)},
			} {
				if zero, e := f(x.list, o); !zero || e != x.e {
					t.Error(call, x.name, o, e)
				}
			}
		}
	}
}

// TestZeroValues: with an error of their own all functions return zero values (R2).
func TestZeroValues(t *testing.T) {
	bad := other{of(15), of(9), 15, panel(5, 0, 0)}
	for i, x := range []struct {
		call string
		list []api.BoilTrial
		o    other
		e    api.Errno
	}{
		{"CheckCauses", trialsT(), bad, api.ErrArg},
		{"Fewest", trialsV(), other{}, api.ErrBoil},
		{"All", trialsV(), other{}, api.ErrBoil},
		{"Unclear", trialsT(), other{}, api.ErrNone},
		{"CheckApart", trialsT(), bad, api.ErrArg},
		{"Blame", trialsT(), bad, api.ErrArg},
		{"Blame", trialsV(), bad, api.ErrArg}, // not that there is no explanation first
		{"Blame", trialsV(), other{cause: 1}, api.ErrBoil},
		{"Fails", trialsT(), bad, api.ErrRange},
		{"Fails", trialsV(), bad, api.ErrRange},
		{"Fails", trialsV(), other{}, api.ErrBoil},
		{"Next", trialsV(), other{}, api.ErrBoil},
		{"Next", trialsU(), other{}, api.ErrNone},
		{"Next", nil, other{}, api.ErrNone},
	} {
		if zero, e := functions[x.call](x.list, x.o); !zero || e != x.e {
			t.Error(i, x.call, e)
		}
	}
}
