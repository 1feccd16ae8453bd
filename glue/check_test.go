package glue_test

import (
	"math"
	"math/rand"
	"slices"
	"testing"

	"crossband/api"
	"crossband/glue"
)

// badDays are days that are not valid.
var badDays = []struct {
	name string
	d    api.GlueDay
}{
	{"nothing", api.GlueDay{}},
	{"no minutes at least", day(0, 1, 1)},
	{"no minutes", day(0, 0, 1)},
	{"minutes below 0", day(-1, 40, 10)},
	{"minutes below 0 at most", day(-2, -1, 10)},
	{"too many minutes at most", day(30, 241, 10)},
	{"too many minutes", day(241, 241, 10)},
	{"backwards", day(40, 30, 10)},
	{"backwards by one", day(2, 1, 1)},
	{"no pot", day(30, 40, 0)},
	{"a pot below 0", day(30, 40, -1)},
	{"too large a pot", day(30, 40, 201)},
	{"a pot of as many as there are minutes", day(30, 40, 240)},
	{"the least number of minutes", day(math.MinInt64, 40, 10)},
	{"the greatest number of minutes", day(30, math.MaxInt64, 10)},
	{"all numbers of minutes", day(math.MinInt64, math.MaxInt64, 10)},
	{"all numbers of minutes, backwards", day(math.MaxInt64, math.MinInt64, 10)},
	{"the least pot", day(30, 40, math.MinInt64)},
	{"the greatest pot", day(30, 40, math.MaxInt64)},
}

// badPanels are panels that are not valid, with their errors; of several errors the one named first (R1).
var badPanels = []struct {
	name   string
	panels []api.GluePanel
	e      api.Errno
}{
	{"eleven", slices.Repeat(exactly(1, 1), 11), api.ErrMany},
	{"far too many", slices.Repeat(exactly(1, 1), 5000), api.ErrMany},
	{"eleven of nothing", make([]api.GluePanel, 11), api.ErrMany},
	{"eleven, the first one backwards", append(panels(2, 1, 1), slices.Repeat(exactly(1, 1), 10)...), api.ErrMany},
	{"nothing", make([]api.GluePanel, 1), api.ErrRange},
	{"ten of nothing", make([]api.GluePanel, 10), api.ErrRange},
	{"no minutes at least", panels(0, 1, 1), api.ErrRange},
	{"minutes below 0", panels(-1, 1, 1), api.ErrRange},
	{"too many minutes at most", panels(1, 241, 1), api.ErrRange},
	{"too many minutes", panels(241, 241, 1), api.ErrRange},
	{"backwards", panels(2, 1, 1), api.ErrRange},
	{"no glue", panels(1, 1, 0), api.ErrRange},
	{"glue below 0", panels(1, 1, -1), api.ErrRange},
	{"too much glue", panels(1, 1, 201), api.ErrRange},
	{"the last one of ten", append(slices.Repeat(exactly(1, 1), 9), panels(1, 241, 1)...), api.ErrRange},
	{"the first one of ten", append(panels(1, 1, 201), slices.Repeat(exactly(1, 1), 9)...), api.ErrRange},
	{"one in the middle", panels(1, 2, 3, 3, 2, 1, 1, 2, 3), api.ErrRange},
	{"the least numbers", panels(math.MinInt64, math.MinInt64, math.MinInt64), api.ErrRange},
	{"the greatest numbers", panels(math.MaxInt64, math.MaxInt64, math.MaxInt64), api.ErrRange},
	{"all numbers", panels(math.MinInt64, math.MaxInt64, 1), api.ErrRange},
}

// TestCheckDay is P6.1 for days.
func TestCheckDay(t *testing.T) {
	for _, x := range badDays {
		if e := glue.CheckDay(x.d); e != api.ErrRange {
			t.Error(x.name, e)
		}
	}
	each(t, 500, api.MaxGluePanels, func(_ *rand.Rand, x task) {
		if e := glue.CheckDay(x.d); e != api.OK {
			t.Error(e)
		}
	})
	for n := int64(-3); n < 250; n++ {
		for i, x := range []struct {
			d  api.GlueDay
			ok bool
		}{
			{day(n, n, 1), 1 <= n && n <= 240},
			{day(1, n, 1), 1 <= n && n <= 240},
			{day(n, 240, 1), 1 <= n && n <= 240},
			{day(n, 100, 1), 1 <= n && n <= 100},
			{day(1, 1, n), 1 <= n && n <= 200},
		} {
			if e := glue.CheckDay(x.d); (e == api.OK) != x.ok || !x.ok && e != api.ErrRange {
				t.Error(i, n, e)
			}
		}
	}
}

// TestCheckPanels is P6.1 for panels.
func TestCheckPanels(t *testing.T) {
	for _, x := range badPanels {
		if e := glue.CheckPanels(x.panels); e != x.e {
			t.Error(x.name, e)
		}
	}
	each(t, 500, api.MaxGluePanels, func(_ *rand.Rand, x task) {
		if e := glue.CheckPanels(x.panels); e != api.OK {
			t.Error(e)
		}
	})
	for n := range 20 {
		want := api.OK
		if n > 10 {
			want = api.ErrMany
		}
		if e := glue.CheckPanels(slices.Repeat(panels(1, 240, 200), n)); e != want {
			t.Error(n, e)
		}
	}
	for n := int64(-3); n < 250; n++ {
		for i, x := range []struct {
			panels []api.GluePanel
			ok     bool
		}{
			{panels(n, n, 1), 1 <= n && n <= 240},
			{panels(1, n, 1), 1 <= n && n <= 240},
			{panels(n, 240, 1), 1 <= n && n <= 240},
			{panels(5, 7, 2, n, 100, 1), 1 <= n && n <= 100},
			{panels(5, 7, 2, 1, 1, n), 1 <= n && n <= 200},
		} {
			if e := glue.CheckPanels(x.panels); (e == api.OK) != x.ok || !x.ok && e != api.ErrRange {
				t.Error(i, n, e)
			}
		}
	}
}

// functions call each function with a task and a list, and report whether it returns zero values.
var functions = map[string]func(x task, list []int) (bool, api.Errno){
	"CheckBatch": func(x task, list []int) (bool, api.Errno) {
		m, n, e := glue.CheckBatch(x.d, x.panels, x.sure, list)
		return m == 0 && n == 0, e
	},
	"CheckRow": func(x task, list []int) (bool, api.Errno) {
		n, e := checkRow(x, list)
		return n == 0, e
	},
	"Row": func(x task, _ []int) (bool, api.Errno) {
		list, e := glue.Row(x.d, x.panels, x.sure)
		return len(list) == 0, e
	},
	"CheckMarks": func(x task, list []int) (bool, api.Errno) {
		n, e := checkMarks(x, list)
		return n == 0, e
	},
	"Marks": func(x task, _ []int) (bool, api.Errno) {
		list, e := glue.Marks(x.d, x.panels, x.sure)
		return len(list) == 0, e
	},
	"CheckPlan": func(x task, list []int) (bool, api.Errno) {
		n, e := checkPlan(x, list)
		return n == 0, e
	},
	"Plan": func(x task, _ []int) (bool, api.Errno) {
		list, e := glue.Plan(x.d, x.panels, x.sure)
		return len(list) == 0, e
	},
	"Bound": func(x task, _ []int) (bool, api.Errno) {
		n, e := glue.Bound(x.d, x.panels, x.sure)
		return n == 0, e
	},
	"CheckApart": func(x task, list []int) (bool, api.Errno) { return true, checkApart(x, list) },
	"Apart": func(x task, _ []int) (bool, api.Errno) {
		list, e := glue.Apart(x.d, x.panels, x.sure)
		return len(list) == 0, e
	},
	"Spares": func(x task, list []int) (bool, api.Errno) {
		m, n, e := glue.Spares(x.d, x.panels, x.sure, list)
		return m == 0 && n == 0, e
	},
}

// TestErrorsFirst: all functions with a day and panels return the error of the day, and then that of the panels, before their own ones, and zero values with it (R1, R2).
func TestErrorsFirst(t *testing.T) {
	check := func(name string, d api.GlueDay, panels []api.GluePanel, want api.Errno) {
		for call, f := range functions {
			for _, sure := range []bool{true, false} {
				for _, list := range [][]int{nil, {0}, {-1}, {1, 0}, {math.MaxInt}, make([]int, len(panels)), make([]int, 5000)} {
					if zero, e := f(task{d, panels, sure}, list); !zero || e != want {
						t.Error(call, name, sure, e)
					}
				}
			}
		}
	}
	for _, x := range badDays {
		check(x.name, x.d, panelsP(), api.ErrRange)
		check(x.name, x.d, nil, api.ErrRange)
		for _, y := range badPanels {
			check(x.name+", "+y.name, x.d, y.panels, api.ErrRange)
		}
	}
	for _, x := range badPanels {
		check(x.name, dayD(), x.panels, x.e)
	}
}

// TestCheckBatch is P6.2: the examples, each error, and which one comes first.
func TestCheckBatch(t *testing.T) {
	for i, x := range []struct {
		x            task
		batch        []int
		time, spread int64
		e            api.Errno
	}{
		{surely(), indexes(1, 2), 30, 7, api.OK},
		{surely(), indexes(0, 2), 0, 0, api.ErrGlue},
		{surely(), indexes(0, 1, 3, 4), 0, 0, api.ErrGlue},
		{maybe(), indexes(0, 1, 2, 3), 0, 0, api.ErrFull},
		{maybe(), indexes(2, 1), 0, 0, api.ErrArg},
		{surely(), indexes(0, 3, 4), 29, 8, api.OK},
		{surely(), indexes(2), 20, 4, api.OK},
		{maybe(), indexes(2), 15, 4, api.OK},
		{maybe(), indexes(0, 1, 2), 33, 10, api.OK},
		{surely(), nil, 0, 0, api.OK},
		{surely(), indexes(), 0, 0, api.OK},
		{task{dayD(), nil, true}, nil, 0, 0, api.OK},
		{maybe(), indexes(0, 1, 2, 3, 4), 0, 0, api.ErrGlue},
		{maybe(), indexes(1, 1), 0, 0, api.ErrArg},
		{maybe(), indexes(0, 0), 0, 0, api.ErrArg},
		{maybe(), indexes(0, 2, 1), 0, 0, api.ErrArg},
		{maybe(), indexes(5), 0, 0, api.ErrArg},
		{maybe(), indexes(0, 1, 2, 3, 4, 5), 0, 0, api.ErrArg},
		{maybe(), indexes(-1), 0, 0, api.ErrArg},
		{maybe(), indexes(-1, 0), 0, 0, api.ErrArg},
		{maybe(), indexes(math.MaxInt), 0, 0, api.ErrArg},
		{maybe(), indexes(math.MinInt), 0, 0, api.ErrArg},
		{maybe(), indexes(0, math.MaxInt, math.MinInt), 0, 0, api.ErrArg},
		{maybe(), make([]int, 5000), 0, 0, api.ErrArg},
		{task{dayD(), nil, true}, indexes(0), 0, 0, api.ErrArg},
		{task{day(10, 10, 10), exactly(5, 5, 5, 5), true}, indexes(0, 1), 10, 10, api.OK},
		{task{day(9, 10, 10), exactly(5, 5, 5, 5), true}, indexes(0, 1), 0, 0, api.ErrGlue},
		{task{day(10, 10, 9), exactly(5, 5, 5, 5), true}, indexes(0, 1), 0, 0, api.ErrFull},
		{task{day(9, 9, 9), exactly(5, 5, 5, 5), true}, indexes(0, 1), 0, 0, api.ErrGlue},
		{task{day(9, 10, 10), panels(5, 6, 5, 5, 9, 5), false}, indexes(0, 1), 10, 10, api.OK},
		{task{day(5, 9, 10), panels(5, 6, 5), true}, indexes(0), 0, 0, api.ErrGlue},
		{task{day(240, 240, 200), slices.Repeat(exactly(24, 20), 10), true}, indexes(0, 1, 2, 3, 4, 5, 6, 7, 8, 9), 240, 200, api.OK},
	} {
		if time, spread, e := glue.CheckBatch(x.x.d, x.x.panels, x.x.sure, x.batch); time != x.time || spread != x.spread || e != x.e {
			t.Error(i, time, spread, e)
		}
	}
}

// TestCheckBatchOfAll holds P6.2 against sums of all lists of panels, some of which cannot be laid alone.
func TestCheckBatchOfAll(t *testing.T) {
	sorts := map[api.Errno]int{}
	r := rand.New(rand.NewSource(2))
	for range 50 {
		x := randomTask(r, api.MaxGluePanels, false)
		for _, list := range subsets(len(x.panels)) {
			time, spread := x.sums(list...)
			want := x.fault(list...)
			if want != api.OK {
				time, spread = 0, 0
			}
			sorts[want]++
			if m, n, e := glue.CheckBatch(x.d, x.panels, x.sure, list); m != time || n != spread || e != want {
				t.Fatal(x, list, m, n, e, want)
			}
		}
	}
	for _, e := range []api.Errno{api.OK, api.ErrGlue, api.ErrFull} {
		if sorts[e] < 100 {
			t.Error("too few of a sort", sorts)
		}
	}
}
