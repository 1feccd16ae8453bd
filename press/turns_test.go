package press_test

import (
	"math"
	"math/rand"
	"slices"
	"testing"

	"crossband/api"
	"crossband/press"
)

// TestCheckTurns is P8.2, and P8.4 for the error: the examples, each error, and which one comes first.
func TestCheckTurns(t *testing.T) {
	for i, x := range []struct {
		turns      [][]int
		hours, way int64
		e          api.Errno
	}{
		{turnsT(), 11, 4, api.OK},
		{turnsOf(indexes(0, 1), indexes(2), indexes(3), indexes(4)), 0, 0, api.ErrPress},
		{turnsOf(indexes(0, 2, 3), indexes(1, 4)), 0, 0, api.ErrFull},
		{turnsOf(indexes(0, 2), indexes(1, 4)), 0, 0, api.ErrSum},
		{turnsOf(indexes(0, 2), indexes(0, 3), indexes(1, 4)), 0, 0, api.ErrRule},
		{turnsOf(indexes(2, 0)), 0, 0, api.ErrArg},
		{turnsOf(indexes(1, 4), indexes(0, 2), indexes(3)), 11, 5, api.OK},
		{turnsOf(indexes(0, 2), indexes(1, 4), indexes(3)), 11, 7, api.OK},
		{turnsOf(indexes(4), indexes(3), indexes(2), indexes(1), indexes(0)), 19, 11, api.OK},
		{nil, 0, 0, api.ErrSum},
		{turnsOf(), 0, 0, api.ErrSum},
		{turnsOf(nil), 0, 0, api.ErrArg},
		{turnsOf(indexes()), 0, 0, api.ErrArg},
		{append(turnsT(), nil), 0, 0, api.ErrArg}, // though all panels are pressed
		{append(turnsT(), indexes(3)), 0, 0, api.ErrRule},
		{turnsOf(indexes(5)), 0, 0, api.ErrArg},
		{turnsOf(indexes(-1)), 0, 0, api.ErrArg},
		{turnsOf(indexes(0, 0)), 0, 0, api.ErrArg},
		{turnsOf(indexes(0, 2, 3, 5)), 0, 0, api.ErrArg},           // not too many first
		{turnsOf(indexes(0, 1, 2)), 0, 0, api.ErrFull},             // not of different heats first
		{turnsOf(indexes(0), indexes(0, 1)), 0, 0, api.ErrPress},   // not for the second time first
		{turnsOf(indexes(0), indexes(0, 2, 3)), 0, 0, api.ErrFull}, // not for the second time first
		{turnsOf(indexes(0), indexes(2, 0)), 0, 0, api.ErrArg},
		{turnsOf(indexes(0), indexes(0), nil), 0, 0, api.ErrRule}, // the turns one after another
		{turnsOf(indexes(0, 1), nil), 0, 0, api.ErrPress},
		{turnsOf(indexes(0, 2, 3), nil), 0, 0, api.ErrFull},
		{turnsOf(indexes(0, 2, 3), indexes(0, 1)), 0, 0, api.ErrFull},
		{turnsOf(indexes(0, 1), indexes(0, 2, 3)), 0, 0, api.ErrPress},
		{turnsOf(indexes(0), nil, indexes(0, 1)), 0, 0, api.ErrArg},
		{turnsOf(indexes(0, 2), indexes(3), indexes(3), indexes(1, 4)), 0, 0, api.ErrRule},
		{turnsOf(indexes(0, 2), indexes(1, 4), indexes(2, 3)), 0, 0, api.ErrRule},
		{turnsOf(indexes(0), indexes(1), indexes(3), indexes(4)), 0, 0, api.ErrSum},
		{turnsOf(indexes(math.MaxInt)), 0, 0, api.ErrArg},
		{turnsOf(indexes(math.MinInt)), 0, 0, api.ErrArg},
		{turnsOf(indexes(0, math.MaxInt, math.MinInt)), 0, 0, api.ErrArg},
		{turnsOf(make([]int, 5000)), 0, 0, api.ErrArg},
		{make([][]int, 5000), 0, 0, api.ErrArg},
		{slices.Repeat(turnsOf(indexes(0)), 5000), 0, 0, api.ErrRule},
	} {
		if h, w, e := press.CheckTurns(bedB(), panelsP(), x.turns); h != x.hours || w != x.way || e != x.e {
			t.Error(i, h, w, e)
		}
		if list, e := press.Done(bedB(), panelsP(), x.turns); e != x.e || e != api.OK && len(list) != 0 {
			t.Error(i, list, e)
		}
		if list, e := press.Lie(bedB(), panelsP(), x.turns); e != x.e || e != api.OK && len(list) != 0 {
			t.Error(i, list, e)
		}
	}
	if h, w, e := press.CheckTurns(bedB(), nil, nil); h != 0 || w != 0 || e != api.OK {
		t.Error("no panels", h, w, e)
	}
	if h, w, e := press.CheckTurns(bedB(), nil, turnsOf(indexes(0))); h != 0 || w != 0 || e != api.ErrArg {
		t.Error("no such panel", h, w, e)
	}
}

// spoilt returns turns that may not be valid any more.
func spoilt(r *rand.Rand, x task, turns [][]int) [][]int {
	out := copiedTurns(turns)
	for range r.Intn(3) {
		i, panel := r.Intn(len(out)+1), r.Intn(len(x.panels)+3)-1
		switch {
		case i == len(out):
			out = append(out, [][]int{nil, {panel}, {panel, panel + 1}}[r.Intn(3)])
		case r.Intn(4) == 0:
			out = slices.Delete(out, i, i+1)
		case r.Intn(2) == 0:
			out[i] = sorted(append(out[i], panel))
		case r.Intn(2) == 0:
			slices.Reverse(out[i])
		case len(out[i]) > 0:
			out[i] = out[i][1:]
		}
	}
	return out
}

// TestCheckTurnsOfAll holds P8.2 against turns of all kinds.
func TestCheckTurnsOfAll(t *testing.T) {
	sorts := map[api.Errno]int{}
	each(t, 2000, api.MaxPressPanels, func(r *rand.Rand, x task) {
		for range 5 {
			turns := spoilt(r, x, x.randomTurns(r))
			want := x.faultOfTurns(turns)
			sorts[want]++
			hours, way := int64(0), int64(0)
			if want == api.OK {
				hours, way = x.pressed(turns)
			}
			if h, w, e := press.CheckTurns(x.b, x.panels, turns); h != hours || w != way || e != want {
				t.Error(turns, h, w, e, hours, way, want)
			}
		}
	})
	for _, e := range []api.Errno{api.OK, api.ErrArg, api.ErrFull, api.ErrPress, api.ErrRule, api.ErrSum} {
		if sorts[e] < 100 {
			t.Error("too few of a sort", sorts)
		}
	}
}

// TestHours is P8.3 for what is seen at once.
func TestHours(t *testing.T) {
	for i, x := range []struct {
		x          task
		hours, way int64
	}{
		{task{bedB(), panelsP()}, 11, 4},
		{task{bedB(), nil}, 0, 0},
		{task{bed(1, 5, 1), panelsP()}, 19, 4},
		{task{bed(3, 5, 1), panelsP()}, 9, 4},
		{task{bed(10, 5, 1), panelsP()}, 9, 4},
		{task{bed(10, 5, 1, 0, 1, 2, 3, 4, 5, 6, 7, 8), panelsP()}, 19, 4},
		{task{bed(2, 4, 1), panelsP()}, 11, 3},
		{task{bed(2, 7, 1), panelsP()}, 11, 3},
		{task{bed(2, 6, 1), panelsP()}, 11, 4},
		{task{bed(2, 0, 1), panelsP()}, 11, 7},
		{task{bed(2, 20, 1), panelsP()}, 11, 16},
		{task{bed(2, 10, 0), panels(0, 1, 20, 1)}, 2, 30},
		{task{bed(2, 9, 0), panels(0, 1, 20, 1)}, 2, 29},
		{task{bed(2, 11, 0), panels(0, 1, 20, 1)}, 2, 29},
		{task{bed(2, 10, 0), panels(20, 1, 12, 1, 8, 1, 0, 1)}, 4, 30},
		{task{bed(2, 10, 0), panels(10, 3, 10, 4, 10, 5)}, 8, 0},
		{task{bed(2, 10, 0), panels(10, 5, 10, 4, 10, 3)}, 8, 0},
		{task{bed(2, 10, 0), panels(10, 4, 10, 5, 10, 3, 10, 5)}, 9, 0},
		{task{bed(1, 0, 10), slices.Repeat(panels(20, 24), 12)}, 288, 20},
		{task{bed(10, 0, 10), slices.Repeat(panels(20, 24), 12)}, 48, 20},
		{task{bed(10, 20, 10, 9), append(slices.Repeat(panels(20, 1), 9), panels(20, 24)...)}, 25, 0},
	} {
		if n := hours(t, x.x); n != x.hours {
			t.Error(i, "hours", n)
		}
		if n := way(t, x.x); n != x.way {
			t.Error(i, "way", n)
		}
	}
}

// TestAllTurns holds P8.3 against all turns of few panels: the fewest hours, the shortest way, and turns that have both.
func TestAllTurns(t *testing.T) {
	apart := 0
	each(t, 300, 5, func(_ *rand.Rand, x task) {
		all := x.allTurns()
		fewest, shortest := int64(math.MaxInt64), int64(math.MaxInt64)
		for _, turns := range all {
			m := checked(t, x, turns)
			fewest, shortest = min(fewest, m[0]), min(shortest, m[1])
		}
		if h, w := hours(t, x), way(t, x); h != fewest || w != shortest {
			t.Error(h, w, fewest, shortest)
		}
		if m := checked(t, x, told(t, press.Turns, x)); m != [2]int64{fewest, shortest} {
			t.Error("turns", m, fewest, shortest)
		}
		if len(x.panels) > 3 && len(all) > 100 {
			apart++
		}
	})
	if apart < 20 {
		t.Error("too few that can be pressed in many ways", apart)
	}
}

// TestBest holds P8.3 against second ways to find the fewest hours and the shortest way, up to the limits.
func TestBest(t *testing.T) {
	most := 0
	each(t, 100, api.MaxPressPanels, func(_ *rand.Rand, x task) {
		openings := len(wholeByHand(x.b))
		if n, want := hours(t, x), x.hoursByHand(openings); n != want || x.hoursByCount(openings) != want {
			t.Error("hours", n, want)
		}
		if len(x.panels) == api.MaxPressPanels {
			most++
		}
	})
	if most < 5 {
		t.Error("too few at the limit", most)
	}
	each(t, 3000, api.MaxPressPanels, func(_ *rand.Rand, x task) {
		h, w := x.hoursByCount(len(wholeByHand(x.b))), x.wayByHand()
		if n := hours(t, x); n != h {
			t.Error("hours", n, h)
		}
		if n := way(t, x); n != w {
			t.Error("way", n, w)
		}
		turns := told(t, press.Turns, x)
		if m := checked(t, x, turns); m != [2]int64{h, w} || x.faultOfTurns(turns) != api.OK {
			t.Error("turns", turns, m, h, w)
		}
	})
}

// TestDone is P8.4: the examples, and turns on other beds.
func TestDone(t *testing.T) {
	for i, x := range []struct {
		b     api.PressBed
		turns [][]int
		done  []int64
		lie   []int
	}{
		{bedB(), turnsT(), longs(7, 15, 7, 9, 15), indexes(0, 0, 1, 0, 1)},
		{bed(2, 5, 1), turnsT(), longs(7, 15, 7, 9, 15), indexes(0, 0, 1, 0, 1)},
		{bed(3, 5, 0, 0), turnsT(), longs(6, 11, 6, 8, 11), indexes(1, 1, 2, 1, 2)},
		{bed(3, 4, 1, 1), turnsT(), longs(6, 14, 6, 8, 14), indexes(0, 0, 2, 0, 2)},
		{bed(10, 7, 10, 0, 1, 2, 4, 5, 6, 7, 8), turnsT(), longs(36, 71, 36, 38, 71), indexes(3, 3, 9, 3, 9)},
		{bed(10, 0, 10), turnsOf(indexes(0, 2, 3), indexes(1, 4)), longs(46, 79, 46, 46, 79), indexes(0, 0, 1, 2, 1)},
		{bed(10, 20, 1, 0, 2, 4), turnsOf(indexes(1, 4), indexes(0, 2, 3)), longs(25, 16, 25, 25, 16), indexes(1, 1, 3, 5, 3)},
		{bed(2, 5, 1, 0), turnsOf(indexes(3), indexes(1), indexes(2), indexes(4), indexes(0)), longs(32, 9, 17, 3, 23), indexes(1, 1, 1, 1, 1)},
		{bed(1, 5, 0), turnsOf(indexes(4), indexes(3), indexes(2), indexes(1), indexes(0)), longs(19, 13, 10, 5, 3), indexes(0, 0, 0, 0, 0)},
	} {
		y := task{x.b, panelsP()}
		if list := toldOf(t, press.Done, y, x.turns); !slices.Equal(list, x.done) {
			t.Error(i, list)
		}
		if list := toldOf(t, press.Lie, y, x.turns); !slices.Equal(list, x.lie) {
			t.Error(i, list)
		}
	}
	for _, b := range []api.PressBed{bedB(), bed(10, 20, 10, 0)} {
		if list := toldOf(t, press.Done, task{b, nil}, nil); len(list) != 0 {
			t.Error(list)
		}
		if list := toldOf(t, press.Lie, task{b, nil}, nil); len(list) != 0 {
			t.Error(list)
		}
	}
}

// TestDoneOfAll holds P8.4 against turns of all kinds.
func TestDoneOfAll(t *testing.T) {
	leak := 0
	each(t, 1000, api.MaxPressPanels, func(r *rand.Rand, x task) {
		turns := x.randomTurns(r)
		done, lie := toldOf(t, press.Done, x, turns), toldOf(t, press.Lie, x, turns)
		if len(done) != len(x.panels) || len(lie) != len(x.panels) {
			t.Fatal(turns, done, lie)
		}
		whole := wholeByHand(x.b)
		for i, turn := range turns {
			for at, panel := range turn {
				if want := x.takes(turns[:i+1]); done[panel] != want {
					t.Error("done", turns, panel, done, want)
				}
				if lie[panel] != whole[at] {
					t.Error("lie", turns, panel, lie, whole)
				}
				if whole[at] != at {
					leak++
				}
			}
		}
	})
	if leak < 500 {
		t.Error("too few behind openings that leak", leak)
	}
}
