package peel_test

import (
	"math"
	"math/big"
	"math/rand"
	"testing"

	"crossband/api"
	"crossband/peel"
)

// TestCheckLine is P1.2 for CheckLine; Core returns the same errors.
func TestCheckLine(t *testing.T) {
	const most = 1 << 36
	for _, x := range []struct {
		y api.PeelLine
		e api.Errno
	}{
		{line(1, 0, 0), api.OK},
		{line(2, 4, 8), api.OK},
		{line(100000, most, -most), api.OK},
		{line(1, -most, most), api.OK},
		{line(0, 0, 0), api.ErrRange},
		{line(-1, 0, 0), api.ErrRange},
		{line(100001, 0, 0), api.ErrRange},
		{line(1, most+1, 0), api.ErrRange},
		{line(1, -most-1, 0), api.ErrRange},
		{line(1, 0, most+1), api.ErrRange},
		{line(1, 0, -most-1), api.ErrRange},
		{line(math.MaxInt64, math.MinInt64, math.MaxInt64), api.ErrRange},
	} {
		if e := peel.CheckLine(x.y); e != x.e {
			t.Error(x.y, e)
		}
		v, e := peel.Core(logA(), x.y)
		if e != x.e || e != api.OK && v != by(0, 0) {
			t.Error(x.y, v, e)
		}
	}
}

// TestCore is P1.2 for Core.
func TestCore(t *testing.T) {
	const most = 1 << 36
	for _, x := range []struct {
		l    api.PeelLog
		y    api.PeelLine
		core api.Ratio
	}{
		{logA(), line(2, 7, 0), by(5, 2)},
		{logA(), line(1, 3, 0), by(2, 1)},
		{logA(), line(1, 0, 1), by(0, 1)},
		{logA(), line(4, 14, 0), by(5, 2)},
		{logA(), line(3, 10, -1), by(5, 3)},
		{logA(), line(1, 7, 0), by(-1, 1)},
		{logA(), line(2, 1, 0), by(-1, 2)},
		{logB(), line(1, 2, 4), by(2, 1)},
		{logB(), line(1, 2, 7), by(1, 1)},
		// the outermost lines
		{log(longs(0, 100), -1000, 1000, -1000, 1000), line(1, most, most), by(1000-101*most, 1)},
		{log(longs(0, 100), -1000, 1000, -1000, 1000), line(1, -most, -most), by(1000-101*most, 1)},
		{log(longs(0, 99), -1000, 1000, -1000, 1000), line(99999, most, most), by(1000*99999-100*most, 99999)},
	} {
		if v := core(t, x.l, x.y); v != x.core {
			t.Error(x.l, x.y, v)
		}
	}
}

// TestCoreIsLeast holds Core against all places and both sides.
func TestCoreIsLeast(t *testing.T) {
	eachLog(t, 300, func(r *rand.Rand, l api.PeelLog) {
		y := line(1+r.Int63n(100000), r.Int63n(1<<37+1)-1<<36, r.Int63n(1<<37+1)-1<<36)
		if r.Intn(2) == 0 {
			y = line(1+r.Int63n(9), r.Int63n(41)-20, r.Int63n(11)-5)
		}
		var least *big.Rat
		for i, x := range l.At {
			h := big.NewRat(y.Start+x*y.Step, y.Den)
			for _, side := range []*big.Rat{
				new(big.Rat).Sub(h, whole(l.Edges[i].Lo)),
				new(big.Rat).Sub(whole(l.Edges[i].Hi), h),
			} {
				if least == nil || side.Cmp(least) < 0 {
					least = side
				}
			}
		}
		equalRatio(t, core(t, l, y), least)
	})
}

// TestBest is P1.3.
func TestBest(t *testing.T) {
	for _, x := range []struct {
		l    api.PeelLog
		best api.Ratio
	}{
		{logA(), by(5, 2)},
		{logB(), by(2, 1)},
		{log(longs(0, 1, 2), 0, 2, 4, 6, 0, 2), by(-1, 1)},
		{log(longs(0, 1, 2), 0, 2, 2, 4, 4, 6), by(1, 1)},
		{log(longs(0, 1, 4), 0, 4, 6, 20, 0, 6), by(-3, 4)},
		{log(longs(0, 100), 0, 0, 1000, 1000), by(0, 1)},
		{log(longs(0, 1), -1000, 1000, -1000, 1000), by(1000, 1)},
		{log(longs(0, 1, 2), -1000, -1000, 1000, 1000, -1000, -1000), by(-1000, 1)},
		{log(longs(0, 49, 99), 0, 7, 0, 7, 1, 7), by(3, 1)},
		{log(longs(0, 1, 99), 0, 0, -1000, 0, 1, 1), by(-1, 198)},
	} {
		if v := best(t, x.l); v != x.best {
			t.Error(x.l, v)
		}
	}
	eachLog(t, 500, func(_ *rand.Rand, l api.PeelLog) {
		equalRatio(t, best(t, l), bestBySlopes(l))
	})
}

// TestLine is P1.3: the line is valid, and its core is the best one; also where lines are as steep, and their Den as great, as can be.
func TestLine(t *testing.T) {
	check := func(_ *rand.Rand, l api.PeelLog) {
		y, e := peel.Line(l)
		if e != api.OK || peel.CheckLine(y) != api.OK {
			t.Fatal(l, y, e)
		}
		if v := core(t, l, y); v != best(t, l) {
			t.Fatal(l, y, v)
		}
	}
	check(nil, log(longs(99, 100), -1000, -1000, 1000, 1000))
	check(nil, log(longs(99, 100), 1000, 1000, -1000, -1000))
	check(nil, log(longs(0, 1, 100), 0, 0, 1, 1, 0, 0))
	check(nil, log(longs(0, 1, 97, 98, 99, 100), -1000, -1000, 1000, 1000, -999, -998, 0, 3, 7, 10, -1000, 990))
	check(nil, log(longs(0, 100), 0, 0, 0, 0))
	eachLog(t, 500, check)
}
