package peel_test

import (
	"math"
	"math/big"
	"math/rand"
	"testing"

	"crossband/api"
	"crossband/peel"
)

// floor returns the greatest whole number that is not greater.
func floor(r api.Ratio) int64 {
	n := r.Num / r.Den
	if n*r.Den > r.Num {
		n--
	}
	return n
}

// TestHeights is P1.5, with ordinary numbers and with the outermost ones.
func TestHeights(t *testing.T) {
	wide := log(longs(99, 100), -1000, 1000, -1000, 1000)
	for _, x := range []struct {
		l       api.PeelLog
		core, x int64
		lo, hi  api.Ratio
	}{
		{logA(), 2, 2, by(3, 1), by(4, 1)},
		{logA(), 2, 0, by(2, 1), by(4, 1)},
		{logA(), 2, 1, by(5, 2), by(4, 1)},
		{logA(), 0, 2, by(1, 1), by(6, 1)},
		{logB(), 2, 1, by(4, 1), by(8, 1)},
		{logB(), 2, 2, by(6, 1), by(14, 1)},
		{logB(), 2, 0, by(2, 1), by(2, 1)},
		{logB(), 0, 100, by(-196, 1), by(1000, 1)},
		{logB(), -2000, 0, by(-2000, 1), by(2004, 1)},
		{wide, 1000, 0, by(0, 1), by(0, 1)},
		{wide, -2000, 0, by(-597000, 1), by(597000, 1)},
		{log(longs(0, 3), 0, 1, 0, 1), 0, 1, by(0, 1), by(1, 1)},
		{log(longs(0, 3), 0, 0, 1, 2), 0, 1, by(1, 3), by(2, 3)},
	} {
		if lo, hi, e := peel.Heights(x.l, x.core, x.x); lo != x.lo || hi != x.hi || e != api.OK {
			t.Error(x.l, x.core, x.x, lo, hi, e)
		}
	}
	for _, x := range []struct {
		core, x int64
		e       api.Errno
	}{
		{3, 2, api.ErrPeel},
		{2000, 100, api.ErrPeel},
		{2001, 2, api.ErrRange},
		{-2001, 2, api.ErrRange},
		{0, 101, api.ErrRange},
		{0, -1, api.ErrRange},
		{3, 101, api.ErrRange},
		{math.MinInt64, 0, api.ErrRange},
		{math.MaxInt64, 0, api.ErrRange},
		{0, math.MinInt64, api.ErrRange},
		{0, math.MaxInt64, api.ErrRange},
	} {
		if lo, hi, e := peel.Heights(logA(), x.core, x.x); lo != by(0, 0) || hi != by(0, 0) || e != x.e {
			t.Error(x.core, x.x, lo, hi, e)
		}
	}
}

// TestHeightsByHand holds Heights (P1.5) against another way to find them; the greatest height is the least one upside down.
func TestHeightsByHand(t *testing.T) {
	eachLog(t, 300, func(r *rand.Rand, l api.PeelLog) {
		for _, core := range longs(floor(best(t, l)), floor(best(t, l))-r.Int63n(9), -2000) {
			x := r.Int63n(101)
			lo, hi, e := peel.Heights(l, core, x)
			if e != api.OK {
				t.Fatal(l, core, x, e)
			}
			equalRatio(t, lo, leastHeight(l, core, x))
			equalRatio(t, hi, new(big.Rat).Neg(leastHeight(upsideDown(l), core, x)))
		}
	})
}

// TestNone is P1.10: a core is kept just if it is at most the best one, and for a greater core the heights are no more.
func TestNone(t *testing.T) {
	eachLog(t, 150, func(r *rand.Rand, l api.PeelLog) {
		x := r.Int63n(101)
		most := floor(best(t, l))
		var low, high api.Ratio
		for core := most - 5; core <= most+3; core++ {
			lo, hi, e := peel.Heights(l, core, x)
			if (core <= most) != (e == api.OK) || core > most && e != api.ErrPeel {
				t.Fatal(l, core, e)
			}
			if e == api.OK && core > most-5 && (less(lo, low) || less(high, hi)) {
				t.Fatal(l, core, x, lo, hi, low, high)
			}
			low, high = lo, hi
		}
	})
}

// through returns what is left of a log for lines that keep a core, with one place more, at which there is just one height; false if there is nothing left.
func through(l api.PeelLog, core, x, height int64) (api.PeelLog, bool) {
	var out api.PeelLog
	add := func(x, lo, hi int64) {
		out.At = append(out.At, x)
		out.Edges = append(out.Edges, api.Range{Lo: lo, Hi: hi})
	}
	placed := false
	for i, at := range l.At {
		if at > x && !placed {
			add(x, height, height)
			placed = true
		}
		lo, hi := l.Edges[i].Lo+core, l.Edges[i].Hi-core
		if at == x {
			if height < lo || height > hi {
				return out, false
			}
			lo, hi, placed = height, height, true
		}
		add(at, lo, hi)
	}
	if !placed {
		add(x, height, height)
	}
	return out, true
}

// TestKeptHeights is P1.9: a line goes through each height between the least and the greatest one, and through no other one. With one more place, that has one height only, the best core tells whether some line does.
func TestKeptHeights(t *testing.T) {
	r := rand.New(rand.NewSource(9))
	for range 400 {
		at := randomPlaces(r, 2, 20)
		at = at[:min(len(at), 7)]
		l := api.PeelLog{At: at, Edges: randomEdges(r, len(at), 20)}
		core, x := floor(best(t, l))-r.Int63n(4), r.Int63n(21)
		lo, hi, e := peel.Heights(l, core, x)
		if e != api.OK {
			t.Fatal(l, core, e)
		}
		for h := floor(lo) - 2; h <= floor(hi)+2; h++ {
			m, ok := through(l, core, x, h)
			if ok && peel.CheckLog(m) != api.OK {
				continue // beyond the heights of edges
			}
			inside := !less(by(h, 1), lo) && !less(hi, by(h, 1))
			if inside != (ok && best(t, m).Num >= 0) {
				t.Fatal(l, core, x, h, lo, hi)
			}
		}
	}
}

// TestMixed is P1.9: what is mixed of lines keeps what all of them keep.
func TestMixed(t *testing.T) {
	eachLog(t, 300, func(r *rand.Rand, l api.PeelLog) {
		den := 1 + r.Int63n(9)
		a := line(den, r.Int63n(201)-100, r.Int63n(21)-10)
		b := line(den, r.Int63n(201)-100, r.Int63n(21)-10)
		m, n := r.Int63n(5), 1+r.Int63n(5)
		mixed := line(den*(m+n), m*a.Start+n*b.Start, m*a.Step+n*b.Step)
		c := core(t, l, mixed)
		if less(c, core(t, l, a)) && less(c, core(t, l, b)) {
			t.Fatal(l, a, b, mixed)
		}
	})
}

// TestTurns is P1.6.
func TestTurns(t *testing.T) {
	for _, x := range []struct {
		l              api.PeelLog
		spindle, sheet int64
		n              int64
		e              api.Errno
	}{
		{logA(), 1, 1, 1, api.OK},
		{logA(), 0, 2, 1, api.OK},
		{logA(), 0, 1, 2, api.OK},
		{logA(), 0, 3, 0, api.OK},
		{logA(), 2, 1, 0, api.OK},
		{logB(), 2, 1000, 0, api.OK}, // just the spindle
		{logB(), 0, 2, 1, api.OK},    // just one sheet
		{log(longs(0, 1), -1000, 1000, -1000, 1000), 0, 1, 1000, api.OK},
		{log(longs(0, 1), -1000, 1000, -1000, 1000), 1000, 1, 0, api.OK},
		{log(longs(0, 1, 99), 0, 0, -1000, 0, 1, 1), 0, 1, 0, api.ErrPeel}, // a best core just below 0
		{logA(), 3, 1, 0, api.ErrPeel},
		{logA(), 1000, 1, 0, api.ErrPeel},
		{logA(), -1, 1, 0, api.ErrRange},
		{logA(), 1001, 1, 0, api.ErrRange},
		{logA(), 3, 0, 0, api.ErrRange},
		{logA(), 3, 1001, 0, api.ErrRange},
		{logA(), math.MinInt64, math.MaxInt64, 0, api.ErrRange},
		{logA(), 1, math.MinInt64, 0, api.ErrRange},
	} {
		if n, e := peel.Turns(x.l, x.spindle, x.sheet); n != x.n || e != x.e {
			t.Error(x.l, x.spindle, x.sheet, n, e)
		}
	}
}

// TestTurnsFit is P1.6: so many sheets fit beside the spindle, and one more does not.
func TestTurnsFit(t *testing.T) {
	eachLog(t, 300, func(r *rand.Rand, l api.PeelLog) {
		spindle, sheet := r.Int63n(20), 1+r.Int63n(9)
		n, e := peel.Turns(l, spindle, sheet)
		v := best(t, l)
		if none := less(v, by(spindle, 1)); none != (e == api.ErrPeel) || none && n != 0 || !none && e != api.OK {
			t.Fatal(l, spindle, sheet, n, e)
		}
		if e == api.OK && (less(v, by(spindle+n*sheet, 1)) || !less(v, by(spindle+(n+1)*sheet, 1))) {
			t.Fatal(l, spindle, sheet, n, v)
		}
	})
}
