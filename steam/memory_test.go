package steam_test

import (
	"math"
	"reflect"
	"slices"
	"testing"

	"crossband/api"
	"crossband/steam"
)

// callAll calls all functions, and lists what they return.
func callAll(y api.SteamYard, hours []int64, windows []api.Range, loads int64) []any {
	var out []any
	add := func(x any, e api.Errno) { out = append(out, x, e) }
	add(nil, steam.CheckYard(y))
	n, e := steam.CheckHours(y, hours)
	add(n, e)
	n, e = steam.Fewest(y)
	add(n, e)
	for _, f := range []func(api.SteamYard) ([]int64, api.Errno){steam.Hours, steam.Early, steam.Late} {
		list, e := f(y)
		add(list, e)
	}
	window := api.Range{Lo: loads, Hi: 100 - loads}
	if len(windows) > 0 {
		window = windows[0]
	}
	n, e = steam.Need(y, window)
	add(n, e)
	n, e = steam.CheckProof(y, windows)
	add(n, e)
	proof, e := steam.Proof(y)
	add(proof, e)
	logs, e := steam.Keep(y, loads)
	add(logs, e)
	return out
}

// TestAgain: equal calls return equal results (R9, R10), whatever is called in between, and no argument is changed (R4).
func TestAgain(t *testing.T) {
	var first [][]any
	for round := range 20 {
		i := 0
		for _, y := range goodYards {
			for loads := range int64(4) {
				given := api.SteamYard{Load: y.Load, Logs: slices.Clone(y.Logs)}
				hours, windows := longs(2, 4, 4, 7, 7), ranges(2, 5, 6, 9)
				got := callAll(given, hours, windows, loads)
				if !slices.Equal(given.Logs, y.Logs) || !slices.Equal(hours, longs(2, 4, 4, 7, 7)) || !slices.Equal(windows, ranges(2, 5, 6, 9)) {
					t.Fatal("changed", given, hours, windows)
				}
				if round == 0 {
					first = append(first, got)
				} else if !reflect.DeepEqual(got, first[i]) {
					t.Fatal(got, first[i])
				}
				i++
			}
		}
	}
}

// TestSpare: room behind the elements of an argument is not written to (R4).
func TestSpare(t *testing.T) {
	logs := append(yardA().Logs, to(77, 77))
	hours, windows := longs(2, 4, 4, 7, 7, 77), ranges(2, 5, 6, 9, 77, 77)
	for loads := range int64(11) {
		callAll(api.SteamYard{Load: 2, Logs: logs[:5]}, hours[:5], windows[:2], loads)
	}
	if logs[5] != to(77, 77) || hours[5] != 77 || windows[2] != to(77, 77) {
		t.Error(logs, hours, windows)
	}
}

// TestOwnMemory: what one call returns can be changed, or grown, without a trace in an argument or in what another one returns (R4).
func TestOwnMemory(t *testing.T) {
	y := yardA()
	clear(hoursOf(t, y))
	clear(proofOf(t, y))
	clear(early(t, y))
	clear(late(t, y))
	clear(keep(t, y, 2))
	if !slices.Equal(y.Logs, yardA().Logs) {
		t.Error(y)
	}
	proved(t, y)
	if !slices.Equal(early(t, y), longs(2, 4, 7)) || !slices.Equal(late(t, y), longs(4, 7, 9)) || !slices.Equal(keep(t, y, 2), indexes(0, 1, 2, 3)) {
		t.Error(early(t, y), late(t, y), keep(t, y, 2))
	}
}

// TestEmpty: a nil list and an empty one are the same (R3).
func TestEmpty(t *testing.T) {
	none, empty := api.SteamYard{Load: 3}, api.SteamYard{Load: 3, Logs: []api.Range{}}
	for _, y := range []api.SteamYard{none, empty} {
		for _, hours := range [][]int64{nil, {}} {
			if n, e := steam.CheckHours(y, hours); n != 0 || e != api.OK {
				t.Error(n, e)
			}
		}
		for _, windows := range [][]api.Range{nil, {}} {
			if n, e := steam.CheckProof(y, windows); n != 0 || e != api.OK {
				t.Error(n, e)
			}
		}
		if fewest(t, y) != 0 || len(hoursOf(t, y))+len(proofOf(t, y))+len(early(t, y))+len(late(t, y))+len(keep(t, y, 3)) != 0 {
			t.Error(fewest(t, y), hoursOf(t, y), early(t, y), late(t, y), keep(t, y, 3))
		}
	}
}

// TestAnyNumber: no call panics, whatever the numbers are (P1, R5).
func TestAnyNumber(t *testing.T) {
	numbers := longs(math.MinInt64, math.MinInt64+1, -101, -1, 0, 1, 2, 9, 10, 11, 50, 99, 100, 101, math.MaxInt64-1, math.MaxInt64)
	for _, x := range numbers {
		for _, y := range numbers {
			yards := append([]api.SteamYard{yard(x, 0, 1), yard(1, x, y), yard(2, 3, 4, x, y, y, x), yard(x, y, y)}, goodYards...)
			for _, z := range yards {
				callAll(z, longs(x, y), ranges(x, y), x)
				callAll(z, slices.Repeat(longs(x), len(z.Logs)), ranges(0, 0, x, y, y, x), y)
			}
		}
	}
}
