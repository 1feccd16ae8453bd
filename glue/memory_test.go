package glue_test

import (
	"math"
	"reflect"
	"slices"
	"testing"

	"crossband/api"
	"crossband/glue"
)

// callAll calls all functions, and lists what they return.
func callAll(x task, list []int) []any {
	var out []any
	add := func(got any, e api.Errno) { out = append(out, got, e) }
	add(nil, glue.CheckDay(x.d))
	add(nil, glue.CheckPanels(x.panels))
	time, spread, e := glue.CheckBatch(x.d, x.panels, x.sure, list)
	add([]int64{time, spread}, e)
	n, e := checkRow(x, list)
	add(n, e)
	got, e := glue.Row(x.d, x.panels, x.sure)
	add(got, e)
	n, e = checkMarks(x, list)
	add(n, e)
	got, e = glue.Marks(x.d, x.panels, x.sure)
	add(got, e)
	n, e = checkPlan(x, list)
	add(n, e)
	got, e = glue.Plan(x.d, x.panels, x.sure)
	add(got, e)
	n, e = glue.Bound(x.d, x.panels, x.sure)
	add(n, e)
	add(nil, checkApart(x, list))
	got, e = glue.Apart(x.d, x.panels, x.sure)
	add(got, e)
	time, spread, e = glue.Spares(x.d, x.panels, x.sure, list)
	add([]int64{time, spread}, e)
	return out
}

// someLists returns lists that may be asked about a task.
func someLists(t *testing.T, x task) [][]int {
	t.Helper()
	return [][]int{nil, {0}, {0, 1}, row(t, x), plan(t, x), apart(t, x), told(t, glue.Marks, x), {1, 0}, {math.MinInt, math.MaxInt}}
}

// TestAgain: equal calls return equal results (R9, R10), whatever is called in between, and no argument is changed (R4).
func TestAgain(t *testing.T) {
	var first [][]any
	for round := range 4 {
		i := 0
		for _, x := range goodTasks {
			for _, list := range someLists(t, x) {
				given, own := copied(x), slices.Clone(list)
				got := callAll(given, own)
				if !slices.Equal(given.panels, x.panels) || !slices.Equal(own, list) {
					t.Fatal("changed", given, own)
				}
				if round == 0 {
					first = append(first, got)
				} else if !reflect.DeepEqual(got, first[i]) {
					t.Fatal(got, first[i])
				}
				i++
			}
		}
	}
}

// TestSpare: room behind the elements of an argument is not written to (R4).
func TestSpare(t *testing.T) {
	all := append(panelsP(), exactly(77, 77, 77, 77)...)
	for _, list := range someLists(t, surely()) {
		room := append(slices.Clone(list), 77, 77)
		callAll(task{dayD(), all[:5], true}, room[:len(list)])
		if !slices.Equal(all, append(panelsP(), exactly(77, 77, 77, 77)...)) || !slices.Equal(room, append(slices.Clone(list), 77, 77)) {
			t.Fatal(all, room)
		}
	}
}

// TestOwnMemory: what one call returns can be changed, or grown, without a trace in an argument or in what another one returns (R4).
func TestOwnMemory(t *testing.T) {
	for _, x := range goodTasks {
		given, list := copied(x), plan(t, x)
		own := slices.Clone(list)
		before := callAll(given, own)
		for _, got := range someLists(t, given)[3:7] {
			got = append(got, 77)
			for i := range got {
				got[i] = 77
			}
		}
		if !slices.Equal(given.panels, x.panels) || !slices.Equal(own, list) {
			t.Fatal("changed", given, own)
		}
		if after := callAll(given, own); !reflect.DeepEqual(before, after) {
			t.Fatal(before, after)
		}
	}
}

// TestEmpty: a nil list and an empty one are the same (R3).
func TestEmpty(t *testing.T) {
	for _, x := range []task{surely(), {dayD(), nil, true}, {dayD(), []api.GluePanel{}, false}} {
		if !reflect.DeepEqual(callAll(x, nil), callAll(x, []int{})) {
			t.Error(x)
		}
	}
	for _, sure := range []bool{true, false} {
		for _, list := range [][]int{nil, {}, {0}} {
			if !reflect.DeepEqual(callAll(task{dayD(), nil, sure}, list), callAll(task{dayD(), []api.GluePanel{}, sure}, list)) {
				t.Error(sure, list)
			}
		}
	}
}

// TestAnyNumber: no call panics, whatever the numbers are (P1, R5).
func TestAnyNumber(t *testing.T) {
	numbers := longs(math.MinInt64, math.MinInt64+1, -1, 0, 1, 2, 9, 10, 11, 200, 201, 240, 241, 1<<32, 1<<62, math.MaxInt64-1, math.MaxInt64)
	for _, m := range numbers {
		for _, n := range numbers {
			for _, x := range []task{surely(), {day(m, n, 10), panelsP(), true}, {day(1, m, n), panelsP(), false}, {dayD(), panels(m, n, 1, n, m, 1), true}, {dayD(), panels(1, m, n), false}} {
				callAll(x, indexes(int(m), int(n)))
				callAll(x, indexes(0, 1, int(m), 0, int(n)))
			}
		}
	}
}
