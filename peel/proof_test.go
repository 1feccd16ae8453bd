package peel_test

import (
	"math"
	"math/big"
	"math/rand"
	"testing"

	"crossband/api"
	"crossband/peel"
)

// TestCheckProof is P1.4 for CheckProof.
func TestCheckProof(t *testing.T) {
	skew := log(longs(0, 1, 3), 0, 6, 4, 12, 3, 12)
	for _, x := range []struct {
		l api.PeelLog
		p api.PeelProof
		n api.Ratio
	}{
		{logA(), proof(0, 1, 2, api.PeelOver), by(5, 2)},
		{logA(), proof(0, 1, 2, api.PeelUnder), by(4, 1)},
		{logA(), proof(0, 0, 0, 0), by(3, 1)},
		{logA(), proof(1, 1, 1, 0), by(7, 2)},
		{logA(), proof(2, 2, 2, 0), by(3, 1)},
		{logB(), proof(0, 0, 0, 0), by(2, 1)},
		{logB(), proof(1, 1, 1, 0), by(4, 1)},
		{skew, proof(0, 1, 2, api.PeelUnder), by(11, 2)},
		{skew, proof(0, 1, 2, api.PeelOver), by(2, 1)},
		{log(longs(0, 1, 100), 0, 0, -1000, -1000, 1, 1), proof(0, 1, 2, api.PeelUnder), by(-100001, 200)},
	} {
		if n, e := peel.CheckProof(x.l, x.p); n != x.n || e != api.OK {
			t.Error(x.l, x.p, n, e)
		}
	}
}

// TestCheckProofErrors is P1.4 for what is not a proof.
func TestCheckProofErrors(t *testing.T) {
	for _, p := range []api.PeelProof{
		proof(0, 0, 1, 0), proof(0, 1, 1, 0), proof(1, 0, 1, 0), proof(0, 1, 2, 0), // places that differ, Side 0
		proof(1, 1, 1, 1), proof(1, 1, 1, 2), proof(1, 1, 1, 3), proof(1, 1, 1, -1), // one place, another Side
		proof(0, 1, 2, 3), proof(0, 1, 2, -1), proof(0, 1, 2, math.MinInt), // no such Side
		proof(2, 1, 0, 1), proof(0, 2, 1, 1), proof(1, 0, 2, 2), proof(0, 1, 1, 1), proof(0, 0, 1, 2), proof(0, 1, 0, 2), // not increasing
		proof(0, 1, 3, 1), proof(-1, 1, 2, 1), proof(3, 3, 3, 0), proof(-1, -1, -1, 0), // no places
		proof(math.MinInt, 0, math.MaxInt, 1), proof(math.MaxInt, math.MaxInt, math.MaxInt, 0),
	} {
		if n, e := peel.CheckProof(logA(), p); n != by(0, 0) || e != api.ErrArg {
			t.Error(p, n, e)
		}
	}
	if n, e := peel.CheckProof(logB(), proof(0, 1, 2, 1)); n != by(0, 0) || e != api.ErrArg {
		t.Error(n, e)
	}
}

// provesByHand returns half of what a proof looks at.
func provesByHand(l api.PeelLog, p api.PeelProof) *big.Rat {
	low := func(i int) spot { return spot{l.At[i], l.Edges[i].Lo} }
	high := func(i int) spot { return spot{l.At[i], l.Edges[i].Hi} }
	at := l.At[p.Middle]
	out := whole(l.Edges[p.Middle].Hi - l.Edges[p.Middle].Lo)
	switch p.Side {
	case api.PeelUnder:
		out.Sub(whole(high(p.Middle).y), heightAt(low(p.First), low(p.Last), at))
	case api.PeelOver:
		out.Sub(heightAt(high(p.First), high(p.Last), at), whole(low(p.Middle).y))
	}
	return out.Mul(out, big.NewRat(1, 2))
}

// eachProof calls f with each proof of a log, and what it proves.
func eachProof(t *testing.T, l api.PeelLog, f func(p api.PeelProof, n api.Ratio)) {
	t.Helper()
	for a := range l.At {
		for b := range l.At {
			for c := range l.At {
				for side := -1; side <= 3; side++ {
					p := proof(a, b, c, side)
					right := a == b && b == c && side == 0 || a < b && b < c && (side == 1 || side == 2)
					n, e := peel.CheckProof(l, p)
					if right != (e == api.OK) || !right && e != api.ErrArg {
						t.Fatal(l, p, n, e)
					}
					if right {
						f(p, n)
					}
				}
			}
		}
	}
}

// TestProof is P1.4 for Proof, and P1.8: what the proof that is returned proves is the best core, and is the least that any proof proves; no line has a greater core than that.
func TestProof(t *testing.T) {
	eachLog(t, 200, func(r *rand.Rand, l api.PeelLog) {
		p, e := peel.Proof(l)
		if e != api.OK {
			t.Fatal(l, e)
		}
		least, e := peel.CheckProof(l, p)
		if e != api.OK || least != best(t, l) {
			t.Fatal(l, p, least, e)
		}
		var cores []api.Ratio
		for range 10 {
			cores = append(cores, core(t, l, line(1+r.Int63n(9), r.Int63n(2001)-1000, r.Int63n(201)-100)))
		}
		y, _ := peel.Line(l)
		cores = append(cores, core(t, l, y), core(t, l, line(y.Den*2, y.Start*2+1, y.Step*2)))
		eachProof(t, l, func(p api.PeelProof, n api.Ratio) {
			equalRatio(t, n, provesByHand(l, p))
			if less(n, least) {
				t.Fatal(l, p, n, least)
			}
			for _, c := range cores {
				if less(n, c) {
					t.Fatal(l, p, n, c)
				}
			}
		})
	})
}
