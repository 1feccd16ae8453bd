package press_test

import (
	"math"
	"math/rand"
	"slices"
	"testing"

	"crossband/api"
	"crossband/press"
)

func checkMarks(x task, marks []int) (int64, api.Errno) {
	return press.CheckMarks(x.b, x.panels, marks)
}

// TestCheckMarks is P8.5 for given marks: the examples, each error, and which one comes first.
func TestCheckMarks(t *testing.T) {
	p := task{bedB(), panelsP()}
	five := task{bedB(), panels(2, 4, 2, 4, 2, 4, 2, 4, 2, 4)}
	for i, x := range []struct {
		x     task
		marks []int
		n     int64
		e     api.Errno
	}{
		{p, indexes(0, 1, 3), 11, api.OK},
		{p, indexes(0, 1, 2), 0, api.ErrSum},
		{p, indexes(1, 4), 0, api.ErrSum},
		{p, indexes(3, 0), 0, api.ErrArg},
		{p, nil, 0, api.OK},
		{p, indexes(), 0, api.OK},
		{p, indexes(0), 6, api.OK},
		{p, indexes(1), 3, api.OK},
		{p, indexes(0, 3), 8, api.OK},
		{p, indexes(2, 3), 7, api.OK},
		{p, indexes(0, 3, 4), 11, api.OK},
		{p, indexes(2, 3, 4), 10, api.OK},
		{p, indexes(0, 2), 0, api.ErrSum},
		{p, indexes(0, 2, 3), 0, api.ErrSum},
		{p, indexes(0, 1, 3, 4), 0, api.ErrSum},
		{p, indexes(0, 0), 0, api.ErrArg},
		{p, indexes(1, 1, 4), 0, api.ErrArg},
		{p, indexes(1, 4, 5), 0, api.ErrArg}, // the first two do not prove anything
		{p, indexes(1, 4, 0), 0, api.ErrArg},
		{p, indexes(5), 0, api.ErrArg},
		{p, indexes(-1), 0, api.ErrArg},
		{p, indexes(-1, 0), 0, api.ErrArg},
		{p, indexes(math.MaxInt), 0, api.ErrArg},
		{p, indexes(0, math.MinInt), 0, api.ErrArg},
		{p, make([]int, 5000), 0, api.ErrArg},
		{task{bedB(), nil}, nil, 0, api.OK},
		{task{bedB(), nil}, indexes(0), 0, api.ErrArg},
		{five, indexes(0, 2, 4), 12, api.OK}, // of those that are alike any three
		{five, indexes(0, 1, 2), 12, api.OK},
		{five, indexes(2, 3, 4), 12, api.OK},
		{five, indexes(0, 1, 2, 3), 0, api.ErrSum},
		{task{bed(1, 5, 1), panelsP()}, indexes(0, 1, 2, 3, 4), 19, api.OK},
		{task{bed(3, 5, 1), panelsP()}, indexes(0, 1), 9, api.OK},
		{task{bed(3, 5, 1), panelsP()}, indexes(0, 3), 0, api.ErrSum},
		{task{bed(2, 0, 0), panels(1, 1, 1, 2, 1, 3)}, indexes(0, 2), 4, api.OK}, // the first one takes longest last
		{task{bed(2, 0, 0), panels(1, 1, 1, 2, 1, 3)}, indexes(0, 1), 3, api.OK},
		{task{bed(2, 0, 0), panels(1, 1, 1, 2, 1, 3)}, indexes(1, 2), 0, api.ErrSum},
		{task{bed(2, 0, 0), panels(1, 1, 1, 1, 1, 3, 2, 3)}, indexes(1, 2, 3), 7, api.OK}, // another one is as long
		{task{bed(10, 0, 10), slices.Repeat(panels(20, 24), 12)}, indexes(4, 11), 48, api.OK},
		{task{bed(10, 0, 10), slices.Repeat(panels(20, 24), 10)}, indexes(4, 9), 0, api.ErrSum},
	} {
		if n, e := checkMarks(x.x, x.marks); n != x.n || e != x.e {
			t.Error(i, n, e)
		}
	}
}

// TestCheckMarksOfAll holds P8.5 against all marks of some panels, and Marks against what they prove at most.
func TestCheckMarksOfAll(t *testing.T) {
	proofs, none := 0, 0
	each(t, 100, 9, func(_ *rand.Rand, x task) {
		most := int64(0)
		for set := range 1 << len(x.panels) {
			marks, want := members(set), api.OK
			sum, ok := x.isProof(marks)
			if !ok {
				want = api.ErrSum
				none++
			} else {
				proofs++
			}
			most = max(most, sum)
			if n, e := checkMarks(x, marks); n != sum || e != want {
				t.Error(marks, n, e, sum, want)
			}
		}
		if n, e := checkMarks(x, told(t, press.Marks, x)); n != most || n != hours(t, x) || e != api.OK {
			t.Error("marks", n, e, most)
		}
	})
	if proofs < 1000 || none < 1000 {
		t.Error("too few of a sort", proofs, none)
	}
}

// TestMarks is P8.5 for the marks that are returned, up to the limits.
func TestMarks(t *testing.T) {
	each(t, 3000, api.MaxPressPanels, func(_ *rand.Rand, x task) {
		marks := told(t, press.Marks, x)
		sum, ok := x.isProof(marks)
		if !ok || sum != x.hoursByCount(len(wholeByHand(x.b))) || !slices.IsSorted(marks) {
			t.Error(marks, sum, ok)
		}
		if n, e := checkMarks(x, marks); n != sum || e != api.OK {
			t.Error(marks, n, e, sum)
		}
	})
}

// TestNeeded is P8.6 for given hours: the examples, and the edges.
func TestNeeded(t *testing.T) {
	p := task{bedB(), panelsP()}
	twelve := task{bed(1, 5, 10), alike(12)}
	far := task{bed(10, 0, 10, 3, 4), slices.Repeat(panels(20, 24), 12)}
	for i, x := range []struct {
		x     task
		hours int64
		n     int
		e     api.Errno
	}{
		{p, 15, 2, api.OK},
		{p, 13, 3, api.OK},
		{p, 12, 0, api.ErrNone},
		{p, 23, 1, api.OK},
		{p, -1, 0, api.ErrArg},
		{p, 14, 3, api.OK},
		{p, 22, 2, api.OK},
		{p, 24, 1, api.OK},
		{p, 0, 0, api.ErrNone},
		{p, 3, 0, api.ErrNone},
		{p, math.MaxInt64, 1, api.OK},
		{p, math.MinInt64, 0, api.ErrArg},
		{task{bedB(), nil}, 0, 1, api.OK},
		{task{bedB(), nil}, math.MaxInt64, 1, api.OK},
		{task{bedB(), nil}, -1, 0, api.ErrArg},
		{twelve, 0, 0, api.ErrNone},
		{twelve, 1, 12, api.OK},
		{twelve, 2, 6, api.OK},
		{twelve, 3, 4, api.OK},
		{twelve, 4, 3, api.OK},
		{twelve, 5, 3, api.OK},
		{twelve, 6, 2, api.OK},
		{twelve, 11, 2, api.OK},
		{twelve, 12, 1, api.OK},
		{task{bed(1, 5, 10), alike(11)}, 1, 11, api.OK},
		{task{bed(1, 5, 10), alike(1)}, 1, 1, api.OK},
		{task{bed(1, 4, 10), alike(1)}, 10, 0, api.ErrNone},
		{task{bed(1, 4, 10), alike(1)}, 11, 1, api.OK},
		{far, 223, 0, api.ErrNone},
		{far, 224, 12, api.OK},
		{far, 247, 12, api.OK},
		{far, 248, 6, api.OK},
		{far, 487, 2, api.OK},
		{far, 488, 1, api.OK},
	} {
		if n, e := press.Needed(x.x.b, x.x.panels, x.hours); n != x.n || e != x.e {
			t.Error(i, n, e)
		}
	}
}

// TestSaved is P8.6 for one more opening: the examples, and more openings than a bed can have.
func TestSaved(t *testing.T) {
	for i, x := range []struct {
		x    task
		want int64
	}{
		{task{bedB(), panelsP()}, 2},
		{task{bed(1, 5, 1), panelsP()}, 8},
		{task{bed(3, 5, 1), panelsP()}, 0},
		{task{bedB(), nil}, 0},
		{task{bed(10, 5, 1, 0, 2, 3, 4, 5, 6, 7, 8, 9), panelsP()}, 8},
		{task{bed(10, 5, 1), panelsP()}, 0},
		{task{bed(10, 5, 1), alike(12)}, 0},
		{task{bed(10, 5, 1), alike(11)}, 1},
		{task{bed(10, 5, 1, 9), alike(10)}, 1},
		{task{bed(10, 0, 1), append(slices.Repeat(panels(20, 24), 10), panels(20, 7)...)}, 7},
		{task{bed(10, 0, 1), append(slices.Repeat(panels(20, 24), 11), panels(20, 7)...)}, 17},
		{task{bed(3, 7, 2), panels(7, 9, 7, 8, 7, 7, 7, 6, 7, 5, 7, 4, 7, 3)}, 4},
	} {
		if n := told(t, press.Saved, x.x); n != x.want {
			t.Error(i, n)
		}
	}
}

// TestOpeningsOfAll holds P8.6 against each number of openings.
func TestOpeningsOfAll(t *testing.T) {
	none, more, less := 0, 0, 0
	each(t, 1000, api.MaxPressPanels, func(r *rand.Rand, x task) {
		openings := len(wholeByHand(x.b))
		saved := x.hoursByCount(openings) - x.hoursByCount(openings+1)
		if n := told(t, press.Saved, x); n != saved {
			t.Error("saved", n, saved)
		}
		if saved > 0 {
			less++
		}
		change := x.b.Change * x.wayByHand()
		most := x.hoursByCount(1) + change
		for range 10 {
			hours := r.Int63n(most + 3)
			if r.Intn(2) == 0 {
				hours = max(0, x.hoursByCount(1+r.Intn(12))+change-r.Int63n(2))
			}
			want, e := 0, api.ErrNone
			for n := 20; n > 0; n-- {
				if x.hoursByCount(n)+change <= hours {
					want, e = n, api.OK
				}
			}
			if e == api.ErrNone {
				none++
			} else if want > 1 {
				more++
			}
			if n, f := press.Needed(x.b, x.panels, hours); n != want || f != e {
				t.Error("needed", hours, n, f, want, e)
			}
		}
	})
	if none < 500 || more < 500 || less < 200 {
		t.Error("too few of a sort", none, more, less)
	}
}
