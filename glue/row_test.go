package glue_test

import (
	"math"
	"math/rand"
	"slices"
	"testing"

	"crossband/api"
	"crossband/glue"
)

// TestCheckNumbers is P6.3 and P6.5 for given rows and plans: the examples, each error, and which one comes first.
func TestCheckNumbers(t *testing.T) {
	two := task{day(10, 10, 10), exactly(11, 1, 1, 11), true} // none of its panels can be laid
	for i, x := range []struct {
		x       task
		numbers []int
		row     int
		e       api.Errno // as a row
		plan    int
		f       api.Errno // as a plan
	}{
		{surely(), indexes(0, 1, 1, 1, 2), 0, api.ErrGlue, 0, api.ErrGlue},
		{surely(), indexes(0, 0, 2, 2, 2), 0, api.ErrRule, 0, api.ErrRule},
		{surely(), indexes(0, 0, 1), 0, api.ErrEqual, 0, api.ErrEqual},
		{surely(), indexes(0, 1, 1, 0, 0), 0, api.ErrRule, 2, api.OK},
		{surely(), indexes(0, 2, 1, 0, 0), 0, api.ErrRule, 0, api.ErrRule},
		{surely(), indexes(0, 0, 1, 1, 2), 3, api.OK, 3, api.OK},
		{surely(), indexes(0, 1, 2, 3, 4), 5, api.OK, 5, api.OK},
		{surely(), indexes(0, 1, 2, 3, 3), 4, api.OK, 4, api.OK},
		{surely(), indexes(0, 1, 2, 3, 0), 0, api.ErrRule, 4, api.OK},
		{maybe(), indexes(0, 0, 0, 1, 1), 2, api.OK, 2, api.OK},
		{maybe(), indexes(0, 0, 0, 0, 1), 0, api.ErrFull, 0, api.ErrFull},
		{maybe(), indexes(0, 0, 0, 0, 0), 0, api.ErrGlue, 0, api.ErrGlue},
		{surely(), indexes(1, 1, 1, 1, 1), 0, api.ErrRule, 0, api.ErrRule},
		{surely(), indexes(-1, 0, 1, 2, 3), 0, api.ErrRule, 0, api.ErrRule},
		{surely(), indexes(0, -1, 0, 0, 0), 0, api.ErrRule, 0, api.ErrRule},
		{surely(), indexes(0, 1, 2, 3, 5), 0, api.ErrRule, 0, api.ErrRule},
		{surely(), indexes(0, 0, 0, 0, 2), 0, api.ErrRule, 0, api.ErrRule},
		{surely(), indexes(0, 1, 1, 2, 1), 0, api.ErrRule, 0, api.ErrGlue},
		{maybe(), indexes(0, 1, 1, 2, 1), 0, api.ErrRule, 3, api.OK},
		{surely(), nil, 0, api.ErrEqual, 0, api.ErrEqual},
		{surely(), indexes(9), 0, api.ErrEqual, 0, api.ErrEqual},
		{surely(), indexes(0, 0, 0, 0, 0, 0), 0, api.ErrEqual, 0, api.ErrEqual},
		{surely(), make([]int, 5000), 0, api.ErrEqual, 0, api.ErrEqual},
		{surely(), indexes(math.MaxInt, 0, 0, 0, 0), 0, api.ErrRule, 0, api.ErrRule},
		{surely(), indexes(math.MinInt, 0, 0, 0, 0), 0, api.ErrRule, 0, api.ErrRule},
		{surely(), indexes(0, 1, 2, math.MaxInt, math.MinInt), 0, api.ErrRule, 0, api.ErrRule},
		{task{dayD(), nil, true}, nil, 0, api.OK, 0, api.OK},
		{task{dayD(), nil, true}, indexes(), 0, api.OK, 0, api.OK},
		{task{dayD(), nil, true}, indexes(0), 0, api.ErrEqual, 0, api.ErrEqual},
		{two, indexes(0, 1), 0, api.ErrGlue, 0, api.ErrGlue},
		{task{two.d, exactly(1, 11, 11, 1), true}, indexes(0, 1), 0, api.ErrFull, 0, api.ErrFull},
		{task{two.d, exactly(1, 11, 11, 1), true}, indexes(0, 0), 0, api.ErrGlue, 0, api.ErrGlue},
		{task{two.d, exactly(5, 1, 1, 6, 1, 6, 6, 1), true}, indexes(0, 1, 1, 0), 0, api.ErrRule, 0, api.ErrGlue},
		{task{two.d, exactly(1, 6, 5, 1, 6, 1, 1, 6), true}, indexes(0, 1, 1, 0), 0, api.ErrRule, 0, api.ErrFull},
		{task{day(1, 1, 1), slices.Repeat(exactly(1, 1), 10), true}, indexes(0, 1, 2, 3, 4, 5, 6, 7, 8, 9), 10, api.OK, 10, api.OK},
		{task{day(1, 1, 1), slices.Repeat(exactly(1, 1), 10), true}, indexes(0, 1, 2, 3, 4, 5, 6, 7, 8, 10), 0, api.ErrRule, 0, api.ErrRule},
	} {
		if n, e := checkRow(x.x, x.numbers); n != x.row || e != x.e {
			t.Error(i, "row", n, e)
		}
		if n, e := checkPlan(x.x, x.numbers); n != x.plan || e != x.f {
			t.Error(i, "plan", n, e)
		}
		if _, _, e := glue.Spares(x.x.d, x.x.panels, x.x.sure, x.numbers); e != x.f {
			t.Error(i, "spares", e)
		}
	}
}

// TestCheckNumbersOfAll holds P6.3 and P6.5 against all lists of numbers for a few panels, some of which cannot be laid alone.
func TestCheckNumbersOfAll(t *testing.T) {
	r := rand.New(rand.NewSource(3))
	sorts := map[api.Errno]int{}
	for range 30 {
		x := randomTask(r, 4, false)
		for _, list := range lists(len(x.panels), -1, len(x.panels), anyList) {
			for _, y := range []struct {
				name  string
				is    func([]int) bool
				check func(task, []int) (int, api.Errno)
			}{{"row", isRow, checkRow}, {"plan", isPlan, checkPlan}} {
				n, want := 0, api.ErrRule
				if y.is(list) {
					want = x.numbersFault(list)
				}
				if want == api.OK {
					n = many(list)
				}
				sorts[want]++
				if m, e := y.check(x, list); m != n || e != want {
					t.Fatal(y.name, x, list, m, e, n, want)
				}
			}
		}
	}
	for _, e := range []api.Errno{api.OK, api.ErrGlue, api.ErrFull, api.ErrRule} {
		if sorts[e] < 50 {
			t.Error("too few of a sort", sorts)
		}
	}
}

// TestCannotBeLaid: Row, Marks and Plan return the error of the first panel that cannot be laid alone (P6.3, P6.4, P6.5), Bound and Apart look at it like at others (P6.6, P6.7).
func TestCannotBeLaid(t *testing.T) {
	for i, x := range []struct {
		panels []api.GluePanel
		sure   bool
		e      api.Errno
		bound  int
		apart  []int
	}{
		{panels(1, 1, 1, 25, 31, 1), true, api.ErrGlue, 2, indexes(0, 1)},
		{panels(1, 1, 1, 25, 31, 1), false, api.OK, 1, indexes(0)},
		{panels(1, 1, 11, 31, 31, 1), true, api.ErrFull, 2, indexes(0, 1)},
		{panels(31, 31, 1, 1, 1, 11), true, api.ErrGlue, 2, indexes(0, 1)},
		{panels(1, 1, 1, 31, 31, 11), true, api.ErrGlue, 2, indexes(0, 1)},
		{panels(1, 1, 1, 31, 31, 11), false, api.ErrFull, 2, indexes(0, 1)},
		{panels(41, 41, 1), false, api.ErrGlue, 2, indexes(0)},
		{panels(40, 41, 10), false, api.OK, 1, indexes(0)},
		{panels(40, 41, 10), true, api.ErrGlue, 2, indexes(0)},
		{panels(1, 1, 1, 1, 1, 200), true, api.ErrFull, 21, indexes(0, 1)},
		{slices.Repeat(exactly(240, 200), 10), true, api.ErrGlue, 200, indexes(0, 1, 2, 3, 4, 5, 6, 7, 8, 9)},
	} {
		all := task{dayD(), x.panels, x.sure}
		for _, call := range []string{"Row", "Marks", "Plan"} {
			if zero, e := functions[call](all, nil); e != x.e || e != api.OK && !zero {
				t.Error(i, call, e)
			}
		}
		if n := bound(t, all); n != x.bound {
			t.Error(i, n)
		}
		if list := apart(t, all); !slices.Equal(list, x.apart) {
			t.Error(i, list)
		}
	}
	sorts := map[api.Errno]int{}
	r := rand.New(rand.NewSource(5))
	for range 2000 {
		x := randomTask(r, api.MaxGluePanels, false)
		want := x.allFault()
		sorts[want]++
		for _, call := range []string{"Row", "Marks", "Plan"} {
			if zero, e := functions[call](x, nil); e != want || zero != (e != api.OK || len(x.panels) == 0) {
				t.Fatal(call, x, e, want)
			}
		}
	}
	for _, e := range []api.Errno{api.OK, api.ErrGlue, api.ErrFull} {
		if sorts[e] < 100 {
			t.Error("too few of a sort", sorts)
		}
	}
}

// TestBest is P6.3 and P6.5 for the best row and the best plan, and P6.6: the examples, and panels where they are seen at once.
func TestBest(t *testing.T) {
	for i, x := range []struct {
		x         task
		row, plan []int
		bound     int
	}{
		{surely(), indexes(0, 0, 1, 1, 2), indexes(0, 1, 1, 0, 0), 2},
		{maybe(), indexes(0, 0, 0, 1, 1), indexes(0, 0, 0, 1, 1), 2},
		{task{dayD(), nil, true}, nil, nil, 0},
		{task{day(1, 1, 1), exactly(1, 1), true}, indexes(0), indexes(0), 1},
		{task{day(10, 10, 9), exactly(10, 1, 10, 1, 10, 1), true}, indexes(0, 1, 2), indexes(0, 1, 2), 3},
		{task{day(10, 10, 9), exactly(1, 9, 1, 9), true}, indexes(0, 1), indexes(0, 1), 2},
		{task{day(10, 10, 9), exactly(6, 1, 6, 1, 4, 1, 4, 1), true}, indexes(0, 1, 1, 2), indexes(0, 1, 0, 1), 2},
		{task{day(10, 10, 9), exactly(4, 1, 6, 1, 6, 1, 4, 1), true}, indexes(0, 0, 1, 1), indexes(0, 0, 1, 1), 2},
		{task{day(10, 10, 9), exactly(3, 1, 6, 1, 7, 1, 4, 1), true}, indexes(0, 0, 1, 2), indexes(0, 1, 0, 1), 2}, // the second panel would fit beside the first one
		{task{day(10, 10, 9), exactly(3, 1, 3, 1, 7, 1, 4, 1, 3, 1), true}, indexes(0, 0, 1, 2, 2), indexes(0, 0, 1, 0, 1), 2},
		{task{day(99, 99, 10), exactly(1, 3, 1, 6, 1, 7, 1, 4), true}, indexes(0, 0, 1, 2), indexes(0, 1, 0, 1), 2},
		{task{day(6, 9, 9), panels(3, 4, 1, 3, 4, 1, 3, 4, 1), true}, indexes(0, 1, 2), indexes(0, 1, 2), 2},
		{task{day(6, 9, 9), panels(3, 4, 1, 3, 4, 1, 3, 4, 1), false}, indexes(0, 0, 0), indexes(0, 0, 0), 1},
		{task{day(10, 10, 10), exactly(6, 1, 1, 6, 4, 4, 1, 1), true}, indexes(0, 0, 1, 1), indexes(0, 0, 1, 0), 2},
		{task{day(10, 10, 10), exactly(5, 1, 5, 1, 1, 8), true}, indexes(0, 0, 1), indexes(0, 0, 1), 2},
		{task{day(240, 240, 200), slices.Repeat(exactly(48, 1), 10), true}, indexes(0, 0, 0, 0, 0, 1, 1, 1, 1, 1), indexes(0, 0, 0, 0, 0, 1, 1, 1, 1, 1), 2},
		{task{day(240, 240, 200), slices.Repeat(exactly(1, 100), 10), false}, indexes(0, 0, 1, 1, 2, 2, 3, 3, 4, 4), indexes(0, 0, 1, 1, 2, 2, 3, 3, 4, 4), 5},
		{task{day(240, 240, 200), slices.Repeat(exactly(240, 200), 10), false}, indexes(0, 1, 2, 3, 4, 5, 6, 7, 8, 9), indexes(0, 1, 2, 3, 4, 5, 6, 7, 8, 9), 10},
	} {
		if list := row(t, x.x); !slices.Equal(list, x.row) {
			t.Error(i, "row", list)
		}
		if list := plan(t, x.x); !slices.Equal(list, x.plan) {
			t.Error(i, "plan", list)
		}
		if n := bound(t, x.x); n != x.bound {
			t.Error(i, "bound", n)
		}
	}
}

// TestRowOfAll holds P6.3 against a list of all rows.
func TestRowOfAll(t *testing.T) {
	var all [][][]int
	for n := range api.MaxGluePanels + 1 {
		all = append(all, lists(n, 0, n, isRow))
	}
	each(t, 300, api.MaxGluePanels, func(_ *rand.Rand, x task) {
		want, ok := x.best(all[len(x.panels)])
		if list := row(t, x); !ok || !slices.Equal(list, want) {
			t.Error(list, want)
		}
	})
}

// TestCheckMarks is P6.4 for given marks: the examples, each error, and which one comes first.
func TestCheckMarks(t *testing.T) {
	for i, x := range []struct {
		x     task
		marks []int
		n     int
		e     api.Errno
	}{
		{surely(), indexes(0, 2, 4), 3, api.OK},
		{surely(), indexes(0, 1, 2), 0, api.ErrSum},
		{surely(), indexes(2, 0), 0, api.ErrArg},
		{surely(), indexes(1, 3), 2, api.OK},
		{surely(), indexes(0, 4), 2, api.OK},
		{surely(), indexes(3), 1, api.OK},
		{surely(), nil, 0, api.OK},
		{surely(), indexes(), 0, api.OK},
		{task{dayD(), nil, true}, nil, 0, api.OK},
		{task{dayD(), nil, true}, indexes(0), 0, api.ErrArg},
		{surely(), indexes(0, 2, 3), 0, api.ErrSum},
		{surely(), indexes(1, 2), 0, api.ErrSum}, // both fill a batch
		{maybe(), indexes(0, 2), 0, api.ErrSum},
		{maybe(), indexes(0, 3), 2, api.OK},
		{maybe(), indexes(0, 2, 4), 0, api.ErrSum},
		{surely(), indexes(1, 1), 0, api.ErrArg},
		{surely(), indexes(0, 5), 0, api.ErrArg},
		{surely(), indexes(-1, 3), 0, api.ErrArg},
		{surely(), indexes(0, 1, 0), 0, api.ErrArg}, // the first two do not prove anything
		{surely(), indexes(0, 1, 5), 0, api.ErrArg},
		{surely(), indexes(math.MinInt, math.MaxInt), 0, api.ErrArg},
		{surely(), indexes(0, math.MaxInt, math.MinInt), 0, api.ErrArg},
		{surely(), make([]int, 5000), 0, api.ErrArg},
		{task{day(10, 10, 10), exactly(1, 5, 1, 5, 1, 5), true}, indexes(0, 2), 2, api.OK},
		{task{day(10, 10, 10), exactly(1, 5, 1, 5, 1, 5), true}, indexes(0, 1), 0, api.ErrSum},
		{task{day(10, 10, 10), exactly(1, 5, 9, 9, 1, 5), true}, indexes(0, 2), 2, api.OK}, // for the one between them
		{task{day(10, 10, 10), exactly(11, 1), true}, indexes(0), 1, api.OK},
		{task{day(10, 10, 10), exactly(11, 1, 1, 1), true}, indexes(0, 1), 2, api.OK},
	} {
		if n, e := checkMarks(x.x, x.marks); n != x.n || e != x.e {
			t.Error(i, n, e)
		}
	}
}

// TestMarksOfAll holds P6.4 against all lists of panels: which ones prove something, and that Marks returns as many as can.
func TestMarksOfAll(t *testing.T) {
	proofs := 0
	each(t, 150, api.MaxGluePanels, func(_ *rand.Rand, x task) {
		most := 0
		for _, list := range subsets(len(x.panels)) {
			n, want := len(list), api.OK
			for i := 1; i < len(list); i++ {
				var from []int
				for panel := list[i-1]; panel <= list[i]; panel++ {
					from = append(from, panel)
				}
				if x.fault(from...) == api.OK {
					n, want = 0, api.ErrSum
				}
			}
			if m, e := checkMarks(x, list); m != n || e != want {
				t.Error("check", list, m, e, n, want)
			}
			most = max(most, n)
		}
		if most > 2 {
			proofs++
		}
		marks := told(t, glue.Marks, x)
		if n, e := checkMarks(x, marks); n != most || n != rows(t, x) || len(marks) != n || e != api.OK {
			t.Error("marks", marks, n, e, most)
		}
	})
	if proofs < 50 {
		t.Error("too few", proofs)
	}
}
