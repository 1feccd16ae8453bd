package peel_test

import (
	"math/rand"
	"testing"

	"crossband/api"
	"crossband/peel"
)

func span(t *testing.T, r api.PeelRough) (api.Ratio, api.Ratio) {
	t.Helper()
	lo, hi, e := peel.Span(r)
	if e != api.OK {
		t.Fatal(r, e)
	}
	return lo, hi
}

// TestSpan is P1.7.
func TestSpan(t *testing.T) {
	for _, x := range []struct {
		r      api.PeelRough
		lo, hi api.Ratio
	}{
		{roughR(), by(5, 2), by(5, 2)},
		{api.PeelRough{At: longs(0, 1), Low: edges(0, 2, 0, 0), High: edges(4, 6, 10, 10)}, by(1, 1), by(3, 1)},
		{api.PeelRough{At: longs(0, 1), Low: edges(0, 2, 0, 0), High: edges(2, 6, 0, 0)}, by(0, 1), by(0, 1)},
		{api.PeelRough{At: longs(0, 1, 2), Low: edges(0, 0, 4, 5, 0, 0), High: edges(1, 2, 6, 6, 1, 1)}, by(-2, 1), by(-5, 4)},
		{api.PeelRough{At: longs(0, 100), Low: edges(-1000, 1000, -1000, 1000), High: edges(1000, 1000, 1000, 1000)}, by(0, 1), by(1000, 1)},
	} {
		if lo, hi := span(t, x.r); lo != x.lo || hi != x.hi {
			t.Error(x.r, lo, hi)
		}
	}
}

// randomRough returns a rough log whose bounds are at most so far apart.
func randomRough(r *rand.Rand, at []int64, apart int64) api.PeelRough {
	out := api.PeelRough{At: at}
	for range at {
		lo := r.Int63n(41) - 20
		hi := lo + r.Int63n(apart+1)
		top := hi + r.Int63n(20)
		out.Low = append(out.Low, api.Range{Lo: lo, Hi: hi})
		out.High = append(out.High, api.Range{Lo: top, Hi: top + r.Int63n(apart+1)})
	}
	return out
}

// eachTruth calls f with each truth of a rough log.
func eachTruth(r api.PeelRough, edges []api.Range, f func(l api.PeelLog)) {
	i := len(edges)
	if i == len(r.At) {
		f(api.PeelLog{At: r.At, Edges: edges})
		return
	}
	for lo := r.Low[i].Lo; lo <= r.Low[i].Hi; lo++ {
		for hi := r.High[i].Lo; hi <= r.High[i].Hi; hi++ {
			eachTruth(r, append(edges[:i:i], api.Range{Lo: lo, Hi: hi}), f)
		}
	}
}

// TestTruths is P1.7 and P1.14: the best cores of all truths are within the span, and some are its ends.
func TestTruths(t *testing.T) {
	random := rand.New(rand.NewSource(14))
	for range 60 {
		at := randomPlaces(random, 2, 20)
		r := randomRough(random, at[:min(len(at), 4)], 1)
		lo, hi := span(t, r)
		first, last := false, false
		eachTruth(r, nil, func(l api.PeelLog) {
			v := best(t, l)
			first, last = first || v == lo, last || v == hi
			if less(v, lo) || less(hi, v) {
				t.Fatal(r, l, v, lo, hi)
			}
		})
		if !first || !last {
			t.Fatal(r, lo, hi)
		}
	}
}

// narrower returns a range within another one.
func narrower(r *rand.Rand, x api.Range) api.Range {
	lo := x.Lo + r.Int63n(x.Hi-x.Lo+1)
	return api.Range{Lo: lo, Hi: lo + r.Int63n(x.Hi-lo+1)}
}

// TestNarrower is P1.14: with narrower bounds the span is no wider; with none left it is the best core.
func TestNarrower(t *testing.T) {
	random := rand.New(rand.NewSource(140))
	for range 300 {
		r := randomRough(random, randomPlaces(random, 2, 100), 9)
		lo, hi := span(t, r)
		inner := api.PeelRough{At: r.At}
		for i := range r.At {
			inner.Low = append(inner.Low, narrower(random, r.Low[i]))
			inner.High = append(inner.High, narrower(random, r.High[i]))
		}
		a, b := span(t, inner)
		if less(a, lo) || less(hi, b) || less(b, a) {
			t.Fatal(r, inner, lo, hi, a, b)
		}
		truth := api.PeelLog{At: r.At}
		known := api.PeelRough{At: r.At}
		for i := range r.At {
			low, high := r.Low[i].Lo, r.High[i].Hi
			truth.Edges = append(truth.Edges, api.Range{Lo: low, Hi: high})
			known.Low = append(known.Low, api.Range{Lo: low, Hi: low})
			known.High = append(known.High, api.Range{Lo: high, Hi: high})
		}
		if a, b := span(t, known); a != best(t, truth) || b != a {
			t.Fatal(known, a, b)
		}
	}
}
