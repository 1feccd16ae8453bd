package boil_test

import (
	"math"
	"math/rand"
	"reflect"
	"slices"
	"testing"

	"crossband/api"
	"crossband/boil"
)

// callAll calls all functions, and lists what they return.
func callAll(list []api.BoilTrial, o other) []any {
	var out []any
	add := func(x any, e api.Errno) { out = append(out, x, e) }
	add(nil, boil.CheckTrials(list))
	add(first(boil.Causes(o.panel)))
	add(first(boil.Clear(list)))
	add(nil, boil.CheckCauses(list, o.causes))
	add(first(boil.Fewest(list)))
	add(first(boil.All(list)))
	add(first(boil.Unclear(list)))
	add(nil, boil.CheckApart(list, o.apart))
	add(first(boil.Apart(list)))
	add(first(boil.Blame(list, o.cause)))
	add(first(boil.Fails(list, o.panel)))
	p, n, e := boil.Next(list)
	add(p, e)
	add(n, e)
	return out
}

// otherOf returns what functions can be given besides trials.
func otherOf(r *rand.Rand, list []api.BoilTrial) other {
	o := other{members(r.Intn(1 << 15)), randomApart(r, list), r.Intn(15), randomPanel(r, 5)}
	if all := allByHand(list); len(all) > 0 && r.Intn(2) == 0 {
		o.causes = slices.Clone(all[r.Intn(len(all))])
	}
	return o
}

// copiedOther returns the same in other memory.
func copiedOther(o other) other {
	o.causes, o.apart = slices.Clone(o.causes), slices.Clone(o.apart)
	return o
}

// TestAgain: equal calls return equal results (R9, R10), whatever is called in between, and no argument is changed (R4).
func TestAgain(t *testing.T) {
	var before [][]any
	for round := range 4 {
		r := rand.New(rand.NewSource(9))
		for i, list := range goodTrials {
			o := otherOf(r, list)
			given, own := slices.Clone(list), copiedOther(o)
			got := callAll(given, own)
			if !slices.Equal(given, list) || !reflect.DeepEqual(own, o) {
				t.Fatal("changed", given, own)
			}
			if round == 0 {
				before = append(before, got)
			} else if !reflect.DeepEqual(got, before[i]) {
				t.Fatal(got, before[i])
			}
		}
	}
}

// spare returns a list with the same elements and one more, which its room behind them has.
func spare[T any](list []T, x T) []T { return append(slices.Clone(list), x) }

// TestSpare: room behind the elements of an argument is not written to (R4).
func TestSpare(t *testing.T) {
	r := rand.New(rand.NewSource(8))
	odd := boiled(panel(77, 77, 77), true)
	for _, list := range goodTrials {
		o := otherOf(r, list)
		given, causes, apart := spare(list, odd), spare(o.causes, 77), spare(o.apart, 77)
		callAll(given[:len(list)], other{causes[:len(o.causes)], apart[:len(o.apart)], o.cause, o.panel})
		if !slices.Equal(given, spare(list, odd)) || !slices.Equal(causes, spare(o.causes, 77)) || !slices.Equal(apart, spare(o.apart, 77)) {
			t.Fatal(given, causes, apart)
		}
	}
}

// overwrite changes all elements of a list, and what is in the room behind them.
func overwrite[T any](list []T, x T) {
	list = list[:cap(list)]
	for i := range list {
		list[i] = x
	}
}

// TestOwnMemory: what one call returns can be changed, or grown, without a trace in an argument, in what another one returns, or in another list of it (R4).
func TestOwnMemory(t *testing.T) {
	for _, list := range goodTrials {
		given, o := slices.Clone(list), other{cause: 1, panel: panel(1, 2, 2)}
		before := callAll(given, o)
		all, _ := boil.All(given)
		own := slices.Clone(all)
		for i := range own {
			own[i] = slices.Clone(own[i])
		}
		for i, causes := range all {
			overwrite(causes, 77)
			if !equal(all[i+1:], own[i+1:]) {
				t.Fatal("all", all, own)
			}
		}
		overwrite(all, of(77))
		overwrite(told(t, boil.Clear, given), 77)
		overwrite(told(t, boil.Apart, given), 77)
		causes, _ := boil.Causes(o.panel)
		overwrite(causes, 77)
		if !slices.Equal(given, list) {
			t.Fatal("changed", given, list)
		}
		if after := callAll(given, o); !reflect.DeepEqual(before, after) {
			t.Fatal(before, after)
		}
	}
}

// TestEmpty: a nil list and an empty one are the same (R3).
func TestEmpty(t *testing.T) {
	for _, list := range goodTrials {
		empty := list
		if len(list) == 0 {
			empty = []api.BoilTrial{}
		}
		if !reflect.DeepEqual(callAll(empty, other{causes: of(), apart: of()}), callAll(list, other{})) {
			t.Error(list)
		}
	}
}

// TestAnyNumber: no call panics, whatever the numbers are (P1, R5).
func TestAnyNumber(t *testing.T) {
	numbers := of(math.MinInt, math.MinInt+1, -1<<32, -16, -2, -1, 0, 1, 2, 3, 4, 5, 6, 8, 14, 15, 16, 17, 63, 64, 65, 1<<32, 1<<62, math.MaxInt-10, math.MaxInt-1, math.MaxInt)
	for _, m := range numbers {
		for _, n := range numbers {
			o := other{of(m, n), of(n, m), m, panel(m, n, n)}
			for _, list := range [][]api.BoilTrial{
				nil,
				trialsT(),
				trialsV(),
				with(trialsT(), trials(m, n, 0, failed)...),
				with(trialsT(), trials(0, m, n, held)...),
				trials(n, 0, m, failed, 0, 0, 0, held),
			} {
				callAll(list, o)
				callAll(list, other{of(m), of(n), n, panel(0, m, n)})
			}
		}
	}
}
