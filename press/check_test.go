package press_test

import (
	"math"
	"math/rand"
	"slices"
	"testing"

	"crossband/api"
	"crossband/press"
)

// badBeds are beds that are not valid, with their errors; of several errors the one named first (R1).
var badBeds = []struct {
	name string
	b    api.PressBed
	e    api.Errno
}{
	{"nothing", api.PressBed{}, api.ErrMany},
	{"openings below 0", bed(-1, 0, 0), api.ErrMany},
	{"eleven openings", bed(11, 0, 0), api.ErrMany},
	{"eleven openings, all broken", bed(11, 0, 0, 0, 1, 2, 3, 4, 5, 6, 7, 8, 9, 10), api.ErrMany},
	{"no openings, and nothing else valid", bed(0, 21, 11, 5, 5), api.ErrMany},
	{"the greatest number of openings", bed(math.MaxInt, -1, -1, -1), api.ErrMany},
	{"the least number of openings", bed(math.MinInt, 0, 0), api.ErrMany},
	{"broken below 0", bed(3, 0, 0, -1), api.ErrArg},
	{"broken above the last one", bed(3, 0, 0, 3), api.ErrArg},
	{"the last one broken above the last one", bed(3, 0, 0, 0, 3), api.ErrArg},
	{"broken backwards", bed(3, 0, 0, 2, 1), api.ErrArg},
	{"broken twice", bed(3, 0, 0, 1, 1), api.ErrArg},
	{"as many broken as there are, one twice", bed(3, 0, 0, 0, 1, 1), api.ErrArg},
	{"more broken than there are", bed(3, 0, 0, 0, 1, 2, 3), api.ErrArg},
	{"all broken backwards, and the heat too great", bed(2, 21, 0, 1, 0), api.ErrArg},
	{"broken and a heat that are not valid", bed(3, -1, 11, 5), api.ErrArg},
	{"far too many broken", bed(10, 0, 0, make([]int, 5000)...), api.ErrArg},
	{"the greatest number broken", bed(3, 0, 0, math.MaxInt), api.ErrArg},
	{"the least number broken", bed(3, 0, 0, 0, math.MinInt), api.ErrArg},
	{"the only one broken", bed(1, 0, 0, 0), api.ErrFull},
	{"all broken", bed(3, 0, 0, 0, 1, 2), api.ErrFull},
	{"all ten broken", bed(10, 20, 10, 0, 1, 2, 3, 4, 5, 6, 7, 8, 9), api.ErrFull},
	{"all broken, and a heat and a change that are not valid", bed(2, 21, -1, 0, 1), api.ErrFull},
	{"too great a heat", bed(3, 21, 0, 1), api.ErrRange},
	{"a heat below 0", bed(3, -1, 0, 1), api.ErrRange},
	{"too great a change", bed(3, 0, 11), api.ErrRange},
	{"a change below 0", bed(3, 0, -1), api.ErrRange},
	{"the greatest heat", bed(3, math.MaxInt, 0), api.ErrRange},
	{"the least heat", bed(3, math.MinInt, 0), api.ErrRange},
	{"the greatest change", bed(3, 0, math.MaxInt64), api.ErrRange},
	{"the least change", bed(3, 0, math.MinInt64), api.ErrRange},
}

// badPanels are panels that are not valid, with their errors.
var badPanels = []struct {
	name   string
	panels []api.PressPanel
	e      api.Errno
}{
	{"thirteen", slices.Repeat(panels(5, 1), 13), api.ErrMany},
	{"thirteen of nothing", make([]api.PressPanel, 13), api.ErrMany},
	{"thirteen, the first one too hot", append(panels(21, 1), alike(12)...), api.ErrMany},
	{"far too many", slices.Repeat(panels(5, 1), 5000), api.ErrMany},
	{"nothing", make([]api.PressPanel, 1), api.ErrRange},
	{"twelve of nothing", make([]api.PressPanel, 12), api.ErrRange},
	{"a heat below 0", panels(-1, 1), api.ErrRange},
	{"too great a heat", panels(21, 1), api.ErrRange},
	{"no hours", panels(5, 0), api.ErrRange},
	{"hours below 0", panels(5, -1), api.ErrRange},
	{"too many hours", panels(5, 25), api.ErrRange},
	{"the last one of twelve", append(alike(11), panels(5, 25)...), api.ErrRange},
	{"the first one of twelve", append(panels(21, 5), alike(11)...), api.ErrRange},
	{"one in the middle", panels(4, 6, 7, 0, 4, 5), api.ErrRange},
	{"the greatest numbers", panels(math.MaxInt, math.MaxInt), api.ErrRange},
	{"the least numbers", panels(math.MinInt, math.MinInt), api.ErrRange},
	{"the greatest hours", panels(1, math.MaxInt), api.ErrRange},
	{"the least hours", panels(1, math.MinInt), api.ErrRange},
}

// TestCheckBed is P8.1 for beds.
func TestCheckBed(t *testing.T) {
	for _, x := range badBeds {
		if e := press.CheckBed(x.b); e != x.e {
			t.Error(x.name, e)
		}
	}
	each(t, 500, 0, func(_ *rand.Rand, x task) {
		if e := press.CheckBed(x.b); e != api.OK {
			t.Error(e)
		}
	})
	for n := -5; n < 40; n++ {
		for i, x := range []struct {
			b    api.PressBed
			ok   bool
			most api.Errno
		}{
			{bed(n, 3, 3), 1 <= n && n <= 10, api.ErrMany},
			{bed(7, 3, 3, n), 0 <= n && n < 7, api.ErrArg},
			{bed(7, 3, 3, 2, n), 2 < n && n < 7, api.ErrArg},
			{bed(10, 3, 3, n), 0 <= n && n < 10, api.ErrArg},
			{bed(7, n, 3, 2), 0 <= n && n <= 20, api.ErrRange},
			{bed(7, 3, int64(n), 2), 0 <= n && n <= 10, api.ErrRange},
		} {
			if e := press.CheckBed(x.b); (e == api.OK) != x.ok || !x.ok && e != x.most {
				t.Error(i, n, e)
			}
		}
	}
}

// TestCheckPanels is P8.1 for panels.
func TestCheckPanels(t *testing.T) {
	for _, x := range badPanels {
		if e := press.CheckPanels(x.panels); e != x.e {
			t.Error(x.name, e)
		}
	}
	each(t, 500, api.MaxPressPanels, func(_ *rand.Rand, x task) {
		if e := press.CheckPanels(x.panels); e != api.OK {
			t.Error(e)
		}
	})
	for many := range 20 {
		want := api.OK
		if many > 12 {
			want = api.ErrMany
		}
		if e := press.CheckPanels(slices.Repeat(panels(20, 24), many)); e != want {
			t.Error(many, e)
		}
	}
	for n := -5; n < 40; n++ {
		for i, x := range []struct {
			panels []api.PressPanel
			ok     bool
		}{
			{panels(n, 1), 0 <= n && n <= 20},
			{panels(3, n), 1 <= n && n <= 24},
			{panels(4, 5, n, 24), 0 <= n && n <= 20},
			{panels(4, 5, 0, 1, 20, n, 7, 7), 1 <= n && n <= 24},
		} {
			if e := press.CheckPanels(x.panels); (e == api.OK) != x.ok || !x.ok && e != api.ErrRange {
				t.Error(i, n, e)
			}
		}
	}
}

// TestWhole is P8.1 for the whole openings.
func TestWhole(t *testing.T) {
	for i, x := range []struct {
		b    api.PressBed
		want []int
	}{
		{bedB(), indexes(0, 1)},
		{bed(1, 0, 0), indexes(0)},
		{bed(10, 0, 0), indexes(0, 1, 2, 3, 4, 5, 6, 7, 8, 9)},
		{bed(10, 0, 0, 0, 9), indexes(1, 2, 3, 4, 5, 6, 7, 8)},
		{bed(4, 0, 0, 0, 2), indexes(1, 3)},
		{bed(4, 0, 0, 0, 1, 2), indexes(3)},
		{bed(4, 0, 0, 1, 2, 3), indexes(0)},
	} {
		if list, e := press.Whole(x.b); !slices.Equal(list, x.want) || e != api.OK {
			t.Error(i, list, e)
		}
	}
	for openings := 1; openings <= api.MaxPressOpenings; openings++ {
		for set := range 1<<openings - 1 { // without that of all
			b := bed(openings, 3, 3, members(set)...)
			if list, e := press.Whole(b); !slices.Equal(list, members(1<<openings-1-set)) || e != api.OK {
				t.Error(b, list, e)
			}
		}
	}
	for _, x := range badBeds {
		if list, e := press.Whole(x.b); len(list) != 0 || e != x.e {
			t.Error(x.name, list, e)
		}
	}
}

// other is what functions are given besides a bed and panels.
type other struct {
	turns [][]int
	marks []int
	hours int64
}

// functions call each function with a task, and report whether it returns zero values.
var functions = map[string]func(x task, o other) (bool, api.Errno){
	"CheckTurns": func(x task, o other) (bool, api.Errno) {
		m, n, e := press.CheckTurns(x.b, x.panels, o.turns)
		return m == 0 && n == 0, e
	},
	"Hours": func(x task, _ other) (bool, api.Errno) {
		n, e := press.Hours(x.b, x.panels)
		return n == 0, e
	},
	"Way": func(x task, _ other) (bool, api.Errno) {
		n, e := press.Way(x.b, x.panels)
		return n == 0, e
	},
	"Turns": func(x task, _ other) (bool, api.Errno) {
		list, e := press.Turns(x.b, x.panels)
		return len(list) == 0, e
	},
	"Done": func(x task, o other) (bool, api.Errno) {
		list, e := press.Done(x.b, x.panels, o.turns)
		return len(list) == 0, e
	},
	"Lie": func(x task, o other) (bool, api.Errno) {
		list, e := press.Lie(x.b, x.panels, o.turns)
		return len(list) == 0, e
	},
	"CheckMarks": func(x task, o other) (bool, api.Errno) {
		n, e := press.CheckMarks(x.b, x.panels, o.marks)
		return n == 0, e
	},
	"Marks": func(x task, _ other) (bool, api.Errno) {
		list, e := press.Marks(x.b, x.panels)
		return len(list) == 0, e
	},
	"Saved": func(x task, _ other) (bool, api.Errno) {
		n, e := press.Saved(x.b, x.panels)
		return n == 0, e
	},
	"Needed": func(x task, o other) (bool, api.Errno) {
		n, e := press.Needed(x.b, x.panels, o.hours)
		return n == 0, e
	},
}

// TestErrorsFirst: all functions with a bed return its error first, and then that of the panels, before their own ones, and zero values with it (R1, R2).
func TestErrorsFirst(t *testing.T) {
	check := func(name string, x task, want api.Errno) {
		for call, f := range functions {
			for _, o := range []other{
				{},
				{turnsOf(nil), indexes(-1), -1},
				{turnsT(), indexes(0, 1, 3), 15},
				{turnsOf(indexes(0), indexes(0)), indexes(0, 0), math.MinInt64},
				{turnsOf(make([]int, 5000)), make([]int, 5000), math.MaxInt64},
				{make([][]int, 5000), indexes(math.MaxInt), 0},
			} {
				if zero, e := f(x, o); !zero || e != want {
					t.Error(call, name, o, e)
				}
			}
		}
	}
	for _, x := range badBeds {
		check(x.name, task{x.b, panelsP()}, x.e)
		check(x.name, task{x.b, nil}, x.e)
		for _, y := range badPanels {
			check(x.name+", "+y.name, task{x.b, y.panels}, x.e)
		}
	}
	for _, x := range badPanels {
		check(x.name, task{bedB(), x.panels}, x.e)
	}
}
