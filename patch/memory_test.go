package patch_test

import (
	"math"
	"reflect"
	"slices"
	"testing"

	"crossband/api"
	"crossband/patch"
)

// callAll calls all functions, and lists what they return.
func callAll(s, t api.PatchSheet, patches []api.PatchPiece, knots []int, times int) []any {
	var out []any
	add := func(x any, e api.Errno) { out = append(out, x, e) }
	add(nil, patch.CheckSheet(s))
	for _, p := range patches {
		add(nil, patch.CheckPatch(s, p))
	}
	n, e := patch.CheckPatches(s, patches)
	add(n, e)
	n, e = patch.Fewest(s)
	add(n, e)
	n, e = patch.Cells(s)
	add(n, e)
	some, e := patch.Patches(s)
	add(some, e)
	add(nil, patch.CheckAlone(s, knots))
	list, e := patch.Alone(s)
	add(list, e)
	parts, e := patch.Parts(s)
	add(parts, e)
	p, e := patch.Largest(s)
	add(p, e)
	turned, e := patch.Turn(s, times)
	add(turned, e)
	n, e = patch.Same(s, t)
	add(n, e)
	return out
}

// TestAgain: equal calls return equal results (R9, R10), whatever is called in between, and no argument is changed (R4).
func TestAgain(t *testing.T) {
	var first [][]any
	for round := range 20 {
		i := 0
		for _, s := range goodSheets {
			for times := -1; times <= 4; times++ {
				given, other := withMost(s, s.Most), sheetT()
				patches, knots := pieces(0, 0, 1, 4, 2, 0, 1, 4), indexes(0, 3)
				got := callAll(given, other, patches, knots, times)
				if !equalSheets(given, s) || !equalSheets(other, sheetT()) || !slices.Equal(patches, pieces(0, 0, 1, 4, 2, 0, 1, 4)) || !slices.Equal(knots, indexes(0, 3)) {
					t.Fatal("changed", given, other, patches, knots)
				}
				if round == 0 {
					first = append(first, got)
				} else if !reflect.DeepEqual(got, first[i]) {
					t.Fatal(got, first[i])
				}
				i++
			}
		}
	}
}

// TestSpare: room behind the elements of an argument is not written to (R4).
func TestSpare(t *testing.T) {
	rows := append(sheetS().Rows, "beyond")
	others := append(sheetT().Rows, "beyond")
	patches, knots := pieces(0, 0, 1, 4, 2, 0, 1, 4, 7, 7, 7, 7), indexes(0, 3, 77)
	for times := range 4 {
		callAll(api.PatchSheet{Rows: rows[:3], Most: 4}, api.PatchSheet{Rows: others[:4], Most: 4}, patches[:2], knots[:2], times)
	}
	if rows[3] != "beyond" || others[4] != "beyond" || patches[2] != piece(7, 7, 7, 7) || knots[2] != 77 {
		t.Error(rows, others, patches, knots)
	}
}

// TestOwnMemory: what one call returns can be changed, or grown, without a trace in an argument or in what another one returns (R4).
func TestOwnMemory(t *testing.T) {
	s := sheet(3, "o.o.o. ...... o.o.o.")
	clear(patchesFor(t, s))
	clear(alone(t, s))
	list := parts(t, s)
	want := parts(t, s)
	for i := range list {
		list[i] = append(list[i], 77)
		clear(list[i])
		for j := i + 1; j < len(list); j++ {
			if !slices.Equal(list[j], want[j]) {
				t.Error(list[j], want[j])
			}
		}
	}
	for times := range 4 {
		turned := turn(t, s, times)
		clear(turned.Rows)
		if got := turn(t, s, times); slices.Contains(got.Rows, "") {
			t.Error(times, got)
		}
	}
	if !equalSheets(s, sheet(3, "o.o.o. ...... o.o.o.")) || !equalLists(parts(t, s), want) {
		t.Error(s)
	}
	few, cells := byHand(s)
	mended(t, s, few, cells)
}

// TestEmpty: a nil list and an empty one are the same (R3).
func TestEmpty(t *testing.T) {
	for _, rows := range [][]string{nil, {}} {
		if e := patch.CheckSheet(api.PatchSheet{Rows: rows, Most: 4}); e != api.ErrMany {
			t.Error(e)
		}
	}
	for _, patches := range [][]api.PatchPiece{nil, {}} {
		if n, e := patch.CheckPatches(sheetS(), patches); n != 0 || e != api.ErrSum {
			t.Error(n, e)
		}
		if n, e := patch.CheckPatches(sheet(1, "."), patches); n != 0 || e != api.OK {
			t.Error(n, e)
		}
	}
	for _, knots := range [][]int{nil, {}} {
		for _, s := range goodSheets {
			if e := patch.CheckAlone(s, knots); e != api.OK {
				t.Error(s, e)
			}
		}
	}
}

// TestAnyNumber: no call panics, whatever the numbers are (P1, R5).
func TestAnyNumber(t *testing.T) {
	numbers := indexes(math.MinInt, math.MinInt+1, -37, -1, 0, 1, 2, 5, 6, 7, 36, 37, 1<<32, 1<<62, math.MaxInt-1, math.MaxInt)
	for _, x := range numbers {
		for _, y := range numbers {
			patches := pieces(x, y, 1, 1, 0, 0, x, y, x, 0, y, 1, 0, x, 1, y, x, y, y, x, x, x, y, y)
			for _, s := range []api.PatchSheet{sheetS(), sheet(x, "o.o"), sheet(36, "."), {Rows: []string{"", "o"}, Most: y}} {
				for _, p := range patches {
					if e := patch.CheckPatch(s, p); e == api.OK && (p.Rows > 6 || p.Columns > 6) {
						t.Error(s, p)
					}
				}
				callAll(s, sheet(y, "o .o"), patches, indexes(x, y), x)
			}
		}
	}
}
