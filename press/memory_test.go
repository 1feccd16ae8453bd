package press_test

import (
	"math"
	"math/rand"
	"reflect"
	"slices"
	"testing"

	"crossband/api"
	"crossband/press"
)

// callAll calls all functions, and lists what they return.
func callAll(x task, o other) []any {
	var out []any
	add := func(x any, e api.Errno) { out = append(out, x, e) }
	add(nil, press.CheckBed(x.b))
	add(nil, press.CheckPanels(x.panels))
	whole, e := press.Whole(x.b)
	add(whole, e)
	m, n, e := press.CheckTurns(x.b, x.panels, o.turns)
	add(longs(m, n), e)
	n, e = press.Hours(x.b, x.panels)
	add(n, e)
	n, e = press.Way(x.b, x.panels)
	add(n, e)
	turns, e := press.Turns(x.b, x.panels)
	add(turns, e)
	done, e := press.Done(x.b, x.panels, o.turns)
	add(done, e)
	lie, e := press.Lie(x.b, x.panels, o.turns)
	add(lie, e)
	n, e = press.CheckMarks(x.b, x.panels, o.marks)
	add(n, e)
	marks, e := press.Marks(x.b, x.panels)
	add(marks, e)
	n, e = press.Saved(x.b, x.panels)
	add(n, e)
	needed, e := press.Needed(x.b, x.panels, o.hours)
	add(needed, e)
	return out
}

// TestAgain: equal calls return equal results (R9, R10), whatever is called in between, and no argument is changed (R4).
func TestAgain(t *testing.T) {
	var first [][]any
	for round := range 4 {
		r := rand.New(rand.NewSource(9))
		for i, x := range goodTasks {
			o := other{x.randomTurns(r), x.randomMarks(r), r.Int63n(100)}
			given, own := x.copied(), other{copiedTurns(o.turns), slices.Clone(o.marks), o.hours}
			got := callAll(given, own)
			if !reflect.DeepEqual(given, x.copied()) || !reflect.DeepEqual(own, o) {
				t.Fatal("changed", given, own)
			}
			if round == 0 {
				first = append(first, got)
			} else if !reflect.DeepEqual(got, first[i]) {
				t.Fatal(got, first[i])
			}
		}
	}
}

// spare returns a list with the same elements and one more, which its room behind them has.
func spare[T any](list []T, x T) []T { return append(slices.Clone(list), x) }

// TestSpare: room behind the elements of an argument is not written to (R4).
func TestSpare(t *testing.T) {
	r := rand.New(rand.NewSource(8))
	for _, x := range goodTasks {
		turns, marks := x.randomTurns(r), x.randomMarks(r)
		broken, panels := spare(x.b.Broken, 77), spare(x.panels, api.PressPanel{Heat: 77, Hours: 77})
		longer, more := spare(turns, []int{77}), spare(marks, 77)
		given := x
		given.b.Broken, given.panels = broken[:len(x.b.Broken)], panels[:len(x.panels)]
		for i, turn := range turns {
			longer[i] = spare(turn, 77)[:len(turn)]
		}
		callAll(given, other{longer[:len(turns)], more[:len(marks)], 15})
		for i, turn := range turns {
			if !slices.Equal(longer[i][:len(turn)+1], spare(turn, 77)) {
				t.Fatal("turn", longer[i], turn)
			}
		}
		if !slices.Equal(broken, spare(x.b.Broken, 77)) || panels[len(x.panels)].Heat != 77 || longer[len(turns)][0] != 77 || more[len(marks)] != 77 {
			t.Fatal(broken, panels, longer, more)
		}
	}
}

// overwrite changes all elements of a list, and what is in the room behind them.
func overwrite[T any](list []T, x T) {
	list = list[:cap(list)]
	for i := range list {
		list[i] = x
	}
}

// TestOwnMemory: what one call returns can be changed, or grown, without a trace in an argument, in what another one returns, or in another turn (R4).
func TestOwnMemory(t *testing.T) {
	for _, x := range goodTasks {
		given := x.copied()
		turns := told(t, press.Turns, given)
		own := other{copiedTurns(turns), indexes(), 15}
		before := callAll(given, own)
		for i, turn := range turns {
			overwrite(turn, 77)
			if !reflect.DeepEqual(copiedTurns(turns[i+1:]), own.turns[i+1:]) {
				t.Fatal("turns", turns, own.turns)
			}
		}
		overwrite(turns, indexes(77))
		whole, _ := press.Whole(given.b)
		overwrite(whole, 77)
		overwrite(told(t, press.Marks, given), 77)
		overwrite(toldOf(t, press.Done, given, own.turns), 77)
		overwrite(toldOf(t, press.Lie, given, own.turns), 77)
		if !reflect.DeepEqual(given, x.copied()) {
			t.Fatal("changed", given, x)
		}
		if after := callAll(given, own); !reflect.DeepEqual(before, after) {
			t.Fatal(before, after)
		}
	}
}

// TestEmpty: a nil list and an empty one are the same (R3).
func TestEmpty(t *testing.T) {
	for _, b := range []api.PressBed{bed(3, 5, 1), bed(0, 0, 0), bed(1, 21, 0)} {
		empty := b
		empty.Broken = []int{}
		for _, list := range [][]api.PressPanel{nil, {}, panelsP()} {
			full := callAll(task{empty, list}, other{[][]int{}, []int{}, 5})
			if !reflect.DeepEqual(full, callAll(task{b, slices.Concat(list)}, other{nil, nil, 5})) {
				t.Error(b, list)
			}
			one := callAll(task{empty, list}, other{[][]int{{}}, nil, 5})
			if !reflect.DeepEqual(one, callAll(task{b, list}, other{[][]int{nil}, nil, 5})) {
				t.Error("a turn", b, list)
			}
		}
	}
}

// TestAnyNumber: no call panics, whatever the numbers are (P1, R5).
func TestAnyNumber(t *testing.T) {
	numbers := longs(math.MinInt64, math.MinInt64+1, -1<<32, -2, -1, 0, 1, 2, 3, 4, 5, 10, 11, 12, 13, 20, 21, 24, 25, 1<<32, 1<<62, math.MaxInt64-1, math.MaxInt64)
	for _, m := range numbers {
		for _, n := range numbers {
			a, b := int(m), int(n)
			o := other{turnsOf(indexes(a, b), indexes(b)), indexes(b, a), m}
			for _, x := range []task{
				{bedB(), panelsP()},
				{bed(a, b, n), panelsP()},
				{bed(a, 3, 3, b), panelsP()},
				{bed(10, a, n, a, b), panels(a, b)},
				{bed(3, 5, m, b), panels(a, 1, 1, b)},
				{bed(3, 5, 1), panels(a, b, b, a)},
			} {
				callAll(x, o)
			}
		}
	}
}
