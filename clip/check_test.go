package clip_test

import (
	"math"
	"reflect"
	"slices"
	"testing"

	"crossband/api"
	"crossband/clip"
)

// badRibbons are ribbons that are not valid, with their errors; of several errors the one named first (R1).
var badRibbons = []struct {
	name string
	b    api.ClipRibbon
	e    api.Errno
}{
	{"nothing", api.ClipRibbon{}, api.ErrMany},
	{"no units, with a fault", ribbon(0, 0), api.ErrMany},
	{"length below 0", ribbon(-1), api.ErrMany},
	{"too long", ribbon(25), api.ErrMany},
	{"too long, faults backwards", ribbon(25, 2, 1), api.ErrMany},
	{"the least length", ribbon(math.MinInt), api.ErrMany},
	{"the greatest length", ribbon(math.MaxInt, math.MaxInt), api.ErrMany},
	{"fault before the ribbon", ribbon(4, -1), api.ErrRange},
	{"fault behind the ribbon", ribbon(4, 4), api.ErrRange},
	{"last fault behind the ribbon", ribbon(4, 0, 3, 4), api.ErrRange},
	{"backwards", ribbon(4, 2, 1), api.ErrRange},
	{"twice", ribbon(4, 0, 2, 2), api.ErrRange},
	{"more faults than units", ribbon(2, 0, 1, 2), api.ErrRange},
	{"fault is the greatest number", ribbon(4, math.MaxInt, math.MinInt), api.ErrRange},
	{"fault is the least number", ribbon(4, math.MinInt), api.ErrRange},
}

// badKinds are kinds that are not valid.
var badKinds = []struct {
	name string
	k    []api.ClipKind
	e    api.Errno
}{
	{"nothing", nil, api.ErrMany},
	{"empty", []api.ClipKind{}, api.ErrMany},
	{"seven", slices.Repeat(kinds(1, 1, 0), 7), api.ErrMany},
	{"seven, one without width", append(slices.Repeat(kinds(1, 1, 0), 6), kinds(0, 1, 0)...), api.ErrMany},
	{"no width", kinds(0, 1, 0), api.ErrRange},
	{"too wide", kinds(25, 1, 0), api.ErrRange},
	{"width below 0", kinds(math.MinInt, 1, 0), api.ErrRange},
	{"the greatest width", kinds(math.MaxInt, 1, 0), api.ErrRange},
	{"no price", kinds(1, 0, 0), api.ErrRange},
	{"too dear", kinds(1, 1001, 0), api.ErrRange},
	{"the least price", kinds(1, math.MinInt64, 0), api.ErrRange},
	{"faults below 0", kinds(1, 1, -1), api.ErrRange},
	{"too many faults", kinds(1, 1, 25), api.ErrRange},
	{"the last one", kinds(1, 1, 0, 2, 2, 2, 1, 1, math.MaxInt), api.ErrRange},
}

var goodRibbons = []api.ClipRibbon{
	ribbonR(),
	ribbon(1),
	ribbon(1, 0),
	ribbon(24),
	ribbon(24, 0, 23),
	ribbon(3, 0, 1, 2),
	{Length: 5, Faults: []int{}},
}

var goodKinds = [][]api.ClipKind{
	kindsK(),
	kinds(1, 1, 0),
	kinds(24, 1000, 24),
	slices.Repeat(kinds(1, 1000, 24), 6),
}

// TestCheckRibbon is P2.1 for ribbons.
func TestCheckRibbon(t *testing.T) {
	for _, b := range goodRibbons {
		if e := clip.CheckRibbon(b); e != api.OK {
			t.Error(b, e)
		}
	}
	for _, x := range badRibbons {
		if e := clip.CheckRibbon(x.b); e != x.e {
			t.Error(x.name, e)
		}
	}
}

// TestCheckKinds is P2.1 for kinds.
func TestCheckKinds(t *testing.T) {
	for _, k := range goodKinds {
		if e := clip.CheckKinds(k); e != api.OK {
			t.Error(k, e)
		}
	}
	for _, x := range badKinds {
		if e := clip.CheckKinds(x.k); e != x.e {
			t.Error(x.name, e)
		}
	}
}

// errorsOf fails unless all functions with a ribbon and kinds return an error before their own ones, and zero values with it (R2).
func errorsOf(t *testing.T, name string, b api.ClipRibbon, k []api.ClipKind, want api.Errno) {
	t.Helper()
	numbers := map[string]func() (int64, api.Errno){
		"CheckCuts":   func() (int64, api.Errno) { return clip.CheckCuts(b, k, make([]api.ClipSheet, 99)) },
		"Worth":       func() (int64, api.Errno) { return clip.Worth(b, k) },
		"Count":       func() (int64, api.Errno) { return clip.Count(b, k) },
		"CheckPrices": func() (int64, api.Errno) { return clip.CheckPrices(b, k, make([]int64, 99)) },
		"Cost":        func() (int64, api.Errno) { return clip.Cost(b, k, -1) },
	}
	for call, f := range numbers {
		if n, e := f(); n != 0 || e != want {
			t.Error(call, name, n, e)
		}
	}
	if cuts, e := clip.Cuts(b, k); len(cuts) != 0 || e != want {
		t.Error("Cuts", name, cuts, e)
	}
	if list, e := clip.Prices(b, k); len(list) != 0 || e != want {
		t.Error("Prices", name, list, e)
	}
	if n, e := clip.Parted(b, k, -1); n != 0 || e != want {
		t.Error("Parted", name, n, e)
	}
}

// TestErrorsFirst: the error of CheckRibbon comes before all others, then that of CheckKinds.
func TestErrorsFirst(t *testing.T) {
	for _, x := range badRibbons {
		errorsOf(t, x.name, x.b, kindsK(), x.e)
		for _, y := range badKinds {
			errorsOf(t, x.name+", "+y.name, x.b, y.k, x.e)
		}
	}
	for _, y := range badKinds {
		errorsOf(t, y.name, ribbonR(), y.k, y.e)
	}
}

// TestCheckCuts is P2.2: the examples, each error, and which one comes first.
func TestCheckCuts(t *testing.T) {
	for _, x := range []struct {
		name  string
		cuts  []api.ClipSheet
		worth int64
		e     api.Errno
	}{
		{"best", sheets(0, 1, 2, 2, 5, 1, 7, 2), 14, api.OK},
		{"with waste", sheets(1, 2, 4, 0), 14, api.OK},
		{"a face at the end of a fault's unit", sheets(4, 0), 10, api.OK},
		{"a core with one fault at its first unit", sheets(3, 2), 4, api.OK},
		{"a core with one fault at its last unit", sheets(1, 2), 4, api.OK},
		{"up to the end", sheets(7, 2), 4, api.OK},
		{"nothing", nil, 0, api.OK},
		{"empty", sheets(), 0, api.OK},
		{"a fault in a face", sheets(0, 0), 0, api.ErrClip},
		{"a fault at its last unit", sheets(2, 1), 0, api.ErrClip},
		{"a fault at its first unit", sheets(3, 1), 0, api.ErrClip},
		{"beyond the end", sheets(8, 2), 0, api.ErrClip},
		{"at the end", sheets(10, 1), 0, api.ErrClip},
		{"begins too soon", sheets(4, 2, 5, 1), 0, api.ErrRule},
		{"begins one unit too soon", sheets(0, 1, 1, 2), 0, api.ErrRule},
		{"at the same place", sheets(0, 1, 0, 1), 0, api.ErrRule},
		{"backwards", sheets(5, 1, 0, 1), 0, api.ErrRule},
		{"too soon behind two", sheets(0, 1, 2, 2, 4, 1), 0, api.ErrRule},
		{"too soon, then one that cannot be cut", sheets(4, 0, 4, 0, 0, 0), 0, api.ErrClip},
		{"behind the end", sheets(11, 0), 0, api.ErrRange},
		{"before the beginning", sheets(-1, 0), 0, api.ErrRange},
		{"no such kind", sheets(0, 3), 0, api.ErrRange},
		{"kind below 0", sheets(0, -1), 0, api.ErrRange},
		{"cannot be cut, then out of range", sheets(0, 0, 0, 3), 0, api.ErrRange},
		{"the outermost numbers", sheets(math.MinInt, math.MaxInt, math.MaxInt, math.MinInt), 0, api.ErrRange},
		{"the greatest place", sheets(math.MaxInt, 0), 0, api.ErrRange},
		{"as many as units", make([]api.ClipSheet, 10), 0, api.ErrClip},
		{"more than units", make([]api.ClipSheet, 11), 0, api.ErrMany},
		{"more than units, out of range", slices.Repeat(sheets(-1, 9), 11), 0, api.ErrMany},
	} {
		if n, e := clip.CheckCuts(ribbonR(), kindsK(), x.cuts); n != x.worth || e != x.e {
			t.Error(x.name, n, e)
		}
	}
	var full []api.ClipSheet
	for unit := range 24 {
		full = append(full, api.ClipSheet{From: unit, Kind: unit % 6})
	}
	if n, e := clip.CheckCuts(ribbon(24), slices.Repeat(kinds(1, 1000, 0), 6), full); n != 24000 || e != api.OK {
		t.Error(n, e)
	}
	if n, e := clip.CheckCuts(ribbon(24, 0, 23), kinds(24, 1000, 1), sheets(0, 0)); n != 0 || e != api.ErrClip {
		t.Error(n, e)
	}
	if n, e := clip.CheckCuts(ribbon(24, 0, 23), kinds(24, 1000, 2), sheets(0, 0)); n != 1000 || e != api.OK {
		t.Error(n, e)
	}
}

// callAll calls all functions, and lists what they return.
func callAll(b api.ClipRibbon, k []api.ClipKind, cuts []api.ClipSheet, list []int64, index int) []any {
	var out []any
	add := func(x any, e api.Errno) { out = append(out, x, e) }
	add(nil, clip.CheckRibbon(b))
	add(nil, clip.CheckKinds(k))
	for _, f := range []func(api.ClipRibbon, []api.ClipKind) (int64, api.Errno){clip.Worth, clip.Count} {
		n, e := f(b, k)
		add(n, e)
	}
	n, e := clip.CheckCuts(b, k, cuts)
	add(n, e)
	found, e := clip.Cuts(b, k)
	add(found, e)
	n, e = clip.CheckPrices(b, k, list)
	add(n, e)
	told, e := clip.Prices(b, k)
	add(told, e)
	when, e := clip.Parted(b, k, index)
	add(when, e)
	n, e = clip.Cost(b, k, index)
	add(n, e)
	return out
}

// TestAgain: equal calls return equal results (R9, R10), whatever is called in between, and no argument is changed (R4).
func TestAgain(t *testing.T) {
	var first [][]any
	for round := range 20 {
		i := 0
		for _, b := range goodRibbons {
			for _, k := range goodKinds {
				given, named := ribbon(b.Length, slices.Clone(b.Faults)...), slices.Clone(k)
				cuts, list := sheets(0, 0), longs(1, 2, 3)
				got := callAll(given, named, cuts, list, 1)
				if !slices.Equal(given.Faults, b.Faults) || !slices.Equal(named, k) || !slices.Equal(cuts, sheets(0, 0)) || !slices.Equal(list, longs(1, 2, 3)) {
					t.Fatal("changed", given, named, cuts, list)
				}
				if round == 0 {
					first = append(first, got)
				} else if !reflect.DeepEqual(got, first[i]) {
					t.Fatal(got, first[i])
				}
				i++
			}
		}
	}
}

// TestSpare: room behind the elements of an argument is not written to (R4).
func TestSpare(t *testing.T) {
	faults, k := []int{3, 8, 77}, append(kindsK(), api.ClipKind{Width: 77})
	cuts, list := sheets(0, 1, 77, 77), longs(0, 3, 1, 0, 3, 1, 2, 4, 0, 0, 77)
	for index := range 11 {
		callAll(ribbon(10, faults[:2]...), k[:3], cuts[:1], list[:10], index)
	}
	if !slices.Equal(faults, []int{3, 8, 77}) || k[3].Width != 77 || cuts[1].From != 77 || list[10] != 77 {
		t.Error(faults, k, cuts, list)
	}
}

// TestOwnMemory: what one call returns can be changed without a trace in what another one does (R4).
func TestOwnMemory(t *testing.T) {
	b, k := ribbonR(), kindsK()
	clear(cutsOf(t, b, k))
	clear(prices(t, b, k))
	if got := cutsOf(t, b, k); !slices.Equal(got, sheets(0, 1, 2, 2, 5, 1, 7, 2)) {
		t.Error(got)
	}
	if n, e := clip.CheckPrices(b, k, prices(t, b, k)); n != 14 || e != api.OK {
		t.Error(n, e)
	}
}

// TestAnyNumber: no call panics, whatever the numbers are (P1, R5).
func TestAnyNumber(t *testing.T) {
	numbers := []int{math.MinInt, math.MinInt + 1, -25, -1, 0, 1, 2, 3, 23, 24, 25, 1000, 24000, math.MaxInt - 1, math.MaxInt}
	for _, x := range numbers {
		for _, y := range numbers {
			ribbons := append([]api.ClipRibbon{ribbon(x, y), ribbon(24, x, y)}, goodRibbons...)
			named := append([][]api.ClipKind{kinds(x, y, x), kinds(1, x, y), kinds(x, 1, y)}, goodKinds...)
			for _, b := range ribbons {
				for _, k := range named {
					callAll(b, k, sheets(x, y, y, x), longs(int64(x), int64(y)), x)
				}
			}
			callAll(ribbon(2), kindsK(), sheets(x, 0), longs(int64(x), int64(y)), y)
		}
	}
}
