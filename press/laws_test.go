package press_test

import (
	"math/rand"
	"slices"
	"testing"

	"crossband/api"
	"crossband/press"
)

// TestProved is P8.7.
func TestProved(t *testing.T) {
	proofs, equal := 0, 0
	each(t, 1000, api.MaxPressPanels, func(r *rand.Rand, x task) {
		for range 10 {
			marks := x.randomMarks(r)
			n, e := checkMarks(x, marks)
			if e != api.OK {
				continue
			}
			proofs++
			turns := told(t, press.Turns, x)
			if r.Intn(2) == 0 {
				turns = x.randomTurns(r)
			}
			m := checked(t, x, turns)[0]
			if m < n {
				t.Error(turns, m, marks, n)
			}
			if m == n && len(marks) > 1 {
				equal++
			}
		}
	})
	if proofs < 2000 || equal < 200 {
		t.Error("too few of a sort", proofs, equal)
	}
}

// TestWay is P8.8.
func TestWay(t *testing.T) {
	between, longer := 0, 0
	each(t, 1000, api.MaxPressPanels, func(r *rand.Rand, x task) {
		n := way(t, x)
		for range 5 {
			turns := x.randomTurns(r)
			if m := checked(t, x, turns)[1]; m < n {
				t.Error(turns, m, n)
			} else if m > n {
				longer++
			}
		}
		heats := x.heats()
		if len(heats) == 0 {
			return
		}
		low, high := heats[0], heats[len(heats)-1]
		far := max(high, x.b.Heat) - min(low, x.b.Heat)
		switch {
		case n < int64(far):
			t.Error("not all are reached", n, far)
		case low < x.b.Heat && x.b.Heat < high:
			between++
			if n == int64(far) {
				t.Error("both ends at once", n)
			}
		case n != int64(far):
			t.Error("there and back", n, far)
		}
		for heat, want := range map[int]int{low: high - low, high: high - low} {
			x.b.Heat = heat
			if n := way(t, x); n != int64(want) {
				t.Error("from an end", heat, n, want)
			}
		}
	})
	if between < 200 || longer < 1000 {
		t.Error("too few of a sort", between, longer)
	}
}

// TestHeats is P8.9.
func TestHeats(t *testing.T) {
	several := 0
	each(t, 1000, api.MaxPressPanels, func(_ *rand.Rand, x task) {
		sum := int64(0)
		for _, heat := range x.heats() {
			alone := x.copied()
			alone.panels = slices.DeleteFunc(alone.panels, func(p api.PressPanel) bool { return p.Heat != heat })
			if len(alone.panels) > 1 && len(alone.panels) < len(x.panels) {
				several++
			}
			sum += hours(t, alone)
		}
		if n := hours(t, x); n != sum {
			t.Error(n, sum)
		}
	})
	if several < 500 {
		t.Error("too few", several)
	}
}

// TestOneMore is P8.10 for one more panel.
func TestOneMore(t *testing.T) {
	none, all, some := 0, 0, 0
	each(t, 2000, api.MaxPressPanels-1, func(r *rand.Rand, x task) {
		p := randomPanel(r, append(x.heats(), r.Intn(api.MaxPressHeat+1)), api.MaxPressHours)
		more := x.copied()
		more.panels = slices.Insert(more.panels, r.Intn(len(x.panels)+1), p)
		n, m := hours(t, x), hours(t, more)
		switch {
		case m < n || m > n+p.Hours:
			t.Error(p, n, m)
		case m == n:
			none++
		case m == n+p.Hours:
			all++
		default:
			some++
		}
	})
	if none < 50 || all < 50 || some < 50 {
		t.Error("too few of a sort", none, all, some)
	}
}

// TestLonger is P8.10 for a panel that takes longer.
func TestLonger(t *testing.T) {
	none, all, some := 0, 0, 0
	each(t, 3000, api.MaxPressPanels, func(r *rand.Rand, x task) {
		if len(x.panels) == 0 {
			return
		}
		longer, panel := x.copied(), r.Intn(len(x.panels))
		as := r.Int63n(api.MaxPressHours + 1 - x.panels[panel].Hours)
		longer.panels[panel].Hours += as
		n, m := hours(t, x), hours(t, longer)
		switch {
		case m < n || m > n+as:
			t.Error(panel, as, n, m)
		case as == 0:
		case m == n:
			none++
		case m == n+as:
			all++
		default:
			some++
		}
	})
	if none < 50 || all < 50 || some < 50 {
		t.Error("too few of a sort", none, all, some)
	}
}

// TestOpenings is P8.11.
func TestOpenings(t *testing.T) {
	fewer, as := 0, 0
	each(t, 1000, api.MaxPressPanels, func(_ *rand.Rand, x task) {
		all := int64(0)
		greatest := map[int]int64{}
		for _, p := range x.panels {
			all += p.Hours
			greatest[p.Heat] = max(greatest[p.Heat], p.Hours)
		}
		least := int64(0)
		for _, n := range greatest {
			least += n
		}
		before := all
		for openings := 1; openings <= api.MaxPressOpenings; openings++ {
			n := hours(t, x.withOpenings(openings))
			switch {
			case openings == 1 && n != all:
				t.Error("one", n, all)
			case n > before:
				t.Error("more", openings, n, before)
			case openings >= len(x.panels) && n != least:
				t.Error("as many as panels", openings, n, least)
			case openings >= len(x.panels):
				as++
			case n < before:
				fewer++
			}
			before = n
		}
		if len(x.b.Broken) > 0 { // one that is mended is one more
			mended := x.copied()
			mended.b.Broken = mended.b.Broken[1:]
			n, m := hours(t, x), hours(t, mended)
			if m > n || n-m != told(t, press.Saved, x) {
				t.Error("mended", n, m)
			}
		}
	})
	if fewer < 500 || as < 1000 {
		t.Error("too few of a sort", fewer, as)
	}
}

// TestScaled is P8.12 for Hours.
func TestScaled(t *testing.T) {
	many := 0
	each(t, 1000, api.MaxPressPanels, func(r *rand.Rand, x task) {
		times := 1 + r.Int63n(8)
		scaled := x.copied()
		for i := range scaled.panels {
			scaled.panels[i].Hours *= times
		}
		if press.CheckPanels(scaled.panels) != api.OK {
			return
		}
		if times > 1 {
			many++
		}
		if n, m := hours(t, x), hours(t, scaled); n*times != m {
			t.Error(times, n, m)
		}
	})
	if many < 200 {
		t.Error("too few", many)
	}
}

// sameBut holds what is told of two tasks against one another, whose heats differ only.
func sameBut(t *testing.T, r *rand.Rand, x, y task) {
	t.Helper()
	if hours(t, x) != hours(t, y) || way(t, x) != way(t, y) {
		t.Error("hours, way", hours(t, x), hours(t, y), way(t, x), way(t, y))
	}
	turns, marks, long := x.randomTurns(r), x.randomMarks(r), r.Int63n(400)
	if m, n := checked(t, x, turns), checked(t, y, turns); m != n {
		t.Error("turns", turns, m, n)
	}
	if !slices.Equal(toldOf(t, press.Done, x, turns), toldOf(t, press.Done, y, turns)) || !slices.Equal(toldOf(t, press.Lie, x, turns), toldOf(t, press.Lie, y, turns)) {
		t.Error("done, lie", turns)
	}
	m, e := checkMarks(x, marks)
	n, f := checkMarks(y, marks)
	if m != n || e != f {
		t.Error("marks", marks, m, e, n, f)
	}
	if m := checked(t, y, told(t, press.Turns, x)); m != [2]int64{hours(t, y), way(t, y)} {
		t.Error("turns of the other one", m)
	}
	if n, e := checkMarks(y, told(t, press.Marks, x)); n != hours(t, y) || e != api.OK {
		t.Error("marks of the other one", n, e)
	}
	a, e := press.Needed(x.b, x.panels, long)
	b, f := press.Needed(y.b, y.panels, long)
	if a != b || e != f || told(t, press.Saved, x) != told(t, press.Saved, y) {
		t.Error("openings", long, a, e, b, f)
	}
}

// TestHotter is P8.12 for heats that are greater.
func TestHotter(t *testing.T) {
	many := 0
	each(t, 1000, api.MaxPressPanels, func(r *rand.Rand, x task) {
		hotter, by := x.copied(), r.Intn(9)-4
		hotter.b.Heat += by
		for i := range hotter.panels {
			hotter.panels[i].Heat += by
		}
		if by == 0 || press.CheckBed(hotter.b) != api.OK || press.CheckPanels(hotter.panels) != api.OK {
			return
		}
		many++
		sameBut(t, r, x, hotter)
	})
	if many < 200 {
		t.Error("too few", many)
	}
}

// TestMirrored is P8.12 for heats that are taken from the greatest one.
func TestMirrored(t *testing.T) {
	each(t, 1000, api.MaxPressPanels, func(r *rand.Rand, x task) {
		other := x.copied()
		other.b.Heat = api.MaxPressHeat - x.b.Heat
		for i, p := range x.panels {
			other.panels[i].Heat = api.MaxPressHeat - p.Heat
		}
		sameBut(t, r, x, other)
	})
}

// TestWhenDone is P8.13.
func TestWhenDone(t *testing.T) {
	together := 0
	each(t, 1000, api.MaxPressPanels, func(r *rand.Rand, x task) {
		turns := x.randomTurns(r)
		done, lie := toldOf(t, press.Done, x, turns), toldOf(t, press.Lie, x, turns)
		m := checked(t, x, turns)
		last := int64(0)
		for panel, p := range x.panels {
			last = max(last, done[panel])
			if done[panel] < p.Hours+x.b.Change*int64(size(p.Heat-x.b.Heat)) {
				t.Error("too early", turns, panel, done)
			}
		}
		if last != m[0]+x.b.Change*m[1] {
			t.Error("last", turns, last, m)
		}
		whole := told(t, func(b api.PressBed, _ []api.PressPanel) ([]int, api.Errno) { return press.Whole(b) }, x)
		for _, turn := range turns {
			for i, panel := range turn {
				if !slices.Contains(whole, lie[panel]) {
					t.Error("leaks", turns, panel, lie)
				}
				for _, other := range turn[:i] {
					together++
					if done[panel] != done[other] || lie[panel] == lie[other] {
						t.Error("of a turn", turns, panel, other, done, lie)
					}
				}
			}
		}
	})
	if together < 500 {
		t.Error("too few", together)
	}
}
