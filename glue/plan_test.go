package glue_test

import (
	"math"
	"math/rand"
	"slices"
	"testing"

	"crossband/api"
	"crossband/glue"
)

// TestPlanOfAll holds P6.5 against a list of all plans: of few panels often, up to the limits less so.
func TestPlanOfAll(t *testing.T) {
	later := 0 // plans in which a panel is not in the first batch that has room for it
	for _, y := range []struct{ panels, times int }{{6, 500}, {8, 60}, {10, 12}} {
		var all [][][]int
		for n := range y.panels + 1 {
			all = append(all, lists(n, 0, n, isPlan))
		}
		each(t, y.times, y.panels, func(r *rand.Rand, x task) {
			for y.panels > 6 && 0 < len(x.panels) && len(x.panels) < y.panels {
				x.panels = append(x.panels, x.panels[r.Intn(len(x.panels))])
			}
			want, ok := x.best(all[len(x.panels)])
			if list := plan(t, x); !ok || !slices.Equal(list, want) {
				t.Error(list, want)
			}
			if !slices.Equal(want, x.firstFit()) {
				later++
			}
		})
	}
	if later < 10 {
		t.Error("too few", later)
	}
}

// firstFit returns the plan in which each panel is in the first batch that has room for it.
func (x task) firstFit() []int {
	var out []int
	for panel := range x.panels {
		batch := 0
		for x.fault(append(inBatch(out, batch), panel)...) != api.OK {
			batch++
		}
		out = append(out, batch)
	}
	return out
}

// fewestByHand returns how few batches sets of panels need, from those of their parts: all panels together at last.
func (x task) fewestByHand() int {
	few := make([]int, 1<<len(x.panels))
	for mask := 1; mask < len(few); mask++ {
		few[mask] = math.MaxInt
		for part := mask; part > 0; part = (part - 1) & mask {
			var batch []int
			for panel := range x.panels {
				if part>>panel&1 == 1 {
					batch = append(batch, panel)
				}
			}
			if few[mask&^part] < few[mask]-1 && x.fault(batch...) == api.OK {
				few[mask] = few[mask&^part] + 1
			}
		}
	}
	return few[len(few)-1]
}

// TestPlanUpToLimits holds how many batches the best plan has (P6.5) against those of parts, and the plan against a better beginning.
func TestPlanUpToLimits(t *testing.T) {
	each(t, 60, api.MaxGluePanels, func(_ *rand.Rand, x task) {
		list := plan(t, x)
		if n, e := checkPlan(x, list); n != x.fewestByHand() || e != api.OK {
			t.Error(list, n, e, x.fewestByHand())
		}
		for i, batch := range list {
			for other := range batch {
				if begun := append(slices.Clone(list[:i]), other); x.canEnd(begun, many(list)) {
					t.Error("an earlier one", list, begun)
				}
			}
		}
	})
}

// canEnd reports whether a plan that is begun can be ended with at most so many batches.
func (x task) canEnd(begun []int, most int) bool {
	if many(begun) > most || x.numbersFault(begun) != api.OK {
		return false
	}
	if len(begun) == len(x.panels) {
		return true
	}
	for batch := range many(begun) + 1 {
		if x.canEnd(append(slices.Clone(begun), batch), most) {
			return true
		}
	}
	return false
}

// TestBound is P6.6, with panels that cannot all be laid.
func TestBound(t *testing.T) {
	byTime, byGlue := 0, 0
	r := rand.New(rand.NewSource(6))
	for range 2000 {
		x := randomTask(r, api.MaxGluePanels, false)
		var all []int
		for panel := range x.panels {
			all = append(all, panel)
		}
		time, spread := x.sums(all...)
		n, m := 0, 0
		for int64(n)*x.works() < time {
			n++
		}
		for int64(m)*x.d.Pot < spread {
			m++
		}
		if n > m {
			byTime++
		} else if m > n {
			byGlue++
		}
		if got := bound(t, x); got != max(n, m) {
			t.Fatal(x, got, n, m)
		}
	}
	if byTime < 100 || byGlue < 100 {
		t.Error("too few of a sort", byTime, byGlue)
	}
}

// TestApart is P6.7: the examples, each error, and panels where it is seen at once.
func TestApart(t *testing.T) {
	for i, x := range []struct {
		x     task
		apart []int
	}{
		{surely(), indexes(0, 2)},
		{maybe(), indexes(0)},
		{task{dayD(), nil, true}, nil},
		{task{day(1, 1, 1), exactly(1, 1), true}, indexes(0)},
		{task{day(10, 10, 9), exactly(10, 1, 10, 1, 10, 1), true}, indexes(0, 1, 2)},
		{task{day(10, 10, 9), exactly(4, 1, 4, 1, 6, 1, 7, 1), true}, indexes(0, 3)},
		{task{day(10, 10, 9), exactly(2, 1, 6, 1, 3, 1, 7, 1), true}, indexes(1, 3)},
		{task{day(10, 10, 9), exactly(4, 1, 6, 1, 8, 1, 5, 1), true}, indexes(1, 2, 3)},
		{task{day(99, 99, 10), exactly(1, 4, 1, 6, 1, 8, 1, 5), true}, indexes(1, 2, 3)},
		{task{day(10, 10, 10), exactly(9, 1, 2, 9, 1, 2), true}, indexes(0, 1)},
		{task{day(1, 1, 1), slices.Repeat(exactly(1, 1), 10), true}, indexes(0, 1, 2, 3, 4, 5, 6, 7, 8, 9)},
	} {
		if list := apart(t, x.x); !slices.Equal(list, x.apart) {
			t.Error(i, list)
		}
	}
	for i, x := range []struct {
		x     task
		apart []int
		e     api.Errno
	}{
		{surely(), indexes(2, 4), api.OK},
		{surely(), indexes(1, 2), api.ErrRule},
		{surely(), indexes(0, 2), api.OK},
		{maybe(), indexes(0, 2), api.ErrRule},
		{surely(), indexes(3), api.OK},
		{surely(), nil, api.OK},
		{surely(), indexes(), api.OK},
		{surely(), indexes(0, 2, 4), api.ErrRule}, // the first and the last share
		{surely(), indexes(2, 0), api.ErrArg},
		{surely(), indexes(2, 2), api.ErrArg},
		{surely(), indexes(5), api.ErrArg},
		{surely(), indexes(-1), api.ErrArg},
		{surely(), indexes(0, 1, 1), api.ErrArg},
		{surely(), indexes(0, 1, 5), api.ErrArg},
		{surely(), indexes(math.MinInt, 0), api.ErrArg},
		{surely(), indexes(0, math.MaxInt), api.ErrArg},
		{surely(), make([]int, 5000), api.ErrArg},
		{task{dayD(), nil, true}, nil, api.OK},
		{task{dayD(), nil, true}, indexes(0), api.ErrArg},
	} {
		if e := checkApart(x.x, x.apart); e != x.e {
			t.Error(i, e)
		}
	}
}

// TestApartOfAll holds P6.7 against all lists of panels, some of which cannot be laid alone.
func TestApartOfAll(t *testing.T) {
	sorts := map[int]int{}
	r := rand.New(rand.NewSource(7))
	for range 200 {
		x := randomTask(r, api.MaxGluePanels, false)
		var best []int
		for _, list := range subsets(len(x.panels)) {
			want := api.OK
			for i := range list {
				for k := range i {
					if x.fault(list[k], list[i]) == api.OK {
						want = api.ErrRule
					}
				}
			}
			if e := checkApart(x, list); e != want {
				t.Fatal("check", x, list, e, want)
			}
			if want == api.OK && len(list) > len(best) {
				best = list
			}
		}
		sorts[len(best)]++
		if list := apart(t, x); !slices.Equal(list, best) {
			t.Fatal(x, list, best)
		}
	}
	for n := 1; n < 7; n++ {
		if sorts[n] < 3 {
			t.Error("too few of a sort", sorts)
		}
	}
}

// TestSpares is P6.8: the examples, and plans where it is seen at once. Its errors are looked at with those of CheckPlan.
func TestSpares(t *testing.T) {
	for i, x := range []struct {
		x            task
		plan         []int
		time, spread int64
	}{
		{surely(), indexes(0, 0, 1, 1, 2), 4, 4},
		{surely(), indexes(0, 1, 1, 0, 0), 0, 2},
		{maybe(), indexes(0, 0, 0, 1, 1), 7, 0},
		{maybe(), indexes(0, 1, 2, 3, 4), 25, 6},
		{task{dayD(), nil, true}, nil, 30, 10},
		{task{dayD(), nil, false}, nil, 40, 10},
		{task{day(10, 12, 9), panels(3, 4, 1), true}, indexes(0), 6, 8},
		{task{day(10, 12, 9), panels(3, 4, 1), false}, indexes(0), 9, 8},
		{task{day(10, 10, 10), exactly(6, 1, 1, 6, 2, 2), true}, indexes(0, 1, 1), 4, 2},
		{task{day(10, 10, 10), exactly(6, 1, 1, 6, 2, 2), true}, indexes(0, 1, 0), 2, 4},
		{task{day(240, 240, 200), slices.Repeat(exactly(24, 20), 10), true}, make([]int, 10), 0, 0},
	} {
		if m, n, e := glue.Spares(x.x.d, x.x.panels, x.x.sure, x.plan); m != x.time || n != x.spread || e != api.OK {
			t.Error(i, m, n, e)
		}
	}
}
