package peel_test

import (
	"math/rand"
	"slices"
	"testing"

	"crossband/api"
	"crossband/peel"
)

// smallLog returns a log that leaves room to be moved and scaled.
func smallLog(r *rand.Rand) api.PeelLog {
	at := randomPlaces(r, 2, 20)
	return api.PeelLog{At: at, Edges: randomEdges(r, len(at), 30)}
}

// changed returns a log with other places and edges.
func changed(l api.PeelLog, f func(x int64, e api.Range) (int64, api.Range)) api.PeelLog {
	var out api.PeelLog
	for i, x := range l.At {
		at, e := f(x, l.Edges[i])
		out.At, out.Edges = append(out.At, at), append(out.Edges, e)
	}
	return out
}

// TestTurned is P1.11.
func TestTurned(t *testing.T) {
	r := rand.New(rand.NewSource(11))
	for range 200 {
		l := smallLog(r)
		v := best(t, l)
		ended := changed(l, func(x int64, e api.Range) (int64, api.Range) { return 100 - x, e })
		slices.Reverse(ended.At)
		slices.Reverse(ended.Edges)
		if best(t, ended) != v || best(t, upsideDown(l)) != v {
			t.Fatal(l)
		}
		start, step := r.Int63n(201)-100, r.Int63n(41)-20
		moved := changed(l, func(x int64, e api.Range) (int64, api.Range) {
			return x, api.Range{Lo: e.Lo + start + step*x, Hi: e.Hi + start + step*x}
		})
		if best(t, moved) != v {
			t.Fatal(l, start, step)
		}
		y := line(1+r.Int63n(9), r.Int63n(101)-50, r.Int63n(21)-10)
		if core(t, moved, line(y.Den, y.Start+y.Den*start, y.Step+y.Den*step)) != core(t, l, y) {
			t.Fatal(l, y, start, step)
		}
		y, e := peel.Line(l)
		if e != api.OK || core(t, moved, line(y.Den, y.Start+y.Den*start, y.Step+y.Den*step)) != v {
			t.Fatal(l, y, e, start, step)
		}
	}
}

// TestScaled is P1.12: edges many times as great, and places that are farther, each by as much or as many times.
func TestScaled(t *testing.T) {
	r := rand.New(rand.NewSource(12))
	for range 200 {
		l := smallLog(r)
		v := rat(best(t, l))
		times := r.Int63n(30)
		great := changed(l, func(x int64, e api.Range) (int64, api.Range) {
			return x, api.Range{Lo: e.Lo * times, Hi: e.Hi * times}
		})
		equalRatio(t, best(t, great), v.Mul(v, whole(times)))
		more, factor := r.Int63n(20), 1+r.Int63n(4)
		far := changed(l, func(x int64, e api.Range) (int64, api.Range) { return x*factor + more, e })
		if best(t, far) != best(t, l) {
			t.Fatal(l, more, factor)
		}
	}
}

// TestMore is P1.13.
func TestMore(t *testing.T) {
	r := rand.New(rand.NewSource(13))
	for range 300 {
		l := smallLog(r)
		v := best(t, l)
		if len(l.At) > 2 {
			i := r.Intn(len(l.At))
			fewer := api.PeelLog{At: slices.Delete(slices.Clone(l.At), i, i+1), Edges: slices.Delete(slices.Clone(l.Edges), i, i+1)}
			if less(best(t, fewer), v) {
				t.Fatal(l, i)
			}
		}
		most := int64(0)
		wider := changed(l, func(x int64, e api.Range) (int64, api.Range) {
			down, up := r.Int63n(5), r.Int63n(5)
			most = max(most, down, up)
			return x, api.Range{Lo: e.Lo - down, Hi: e.Hi + up}
		})
		w := best(t, wider)
		sum := rat(v)
		if less(w, v) || rat(w).Cmp(sum.Add(sum, whole(most))) > 0 {
			t.Fatal(l, wider, v, w)
		}
		even := changed(l, func(x int64, e api.Range) (int64, api.Range) {
			return x, api.Range{Lo: e.Lo - most, Hi: e.Hi + most}
		})
		equalRatio(t, best(t, even), sum)
	}
}

// TestStraight is P1.15: two places, and edges that lie on two straight lines.
func TestStraight(t *testing.T) {
	r := rand.New(rand.NewSource(15))
	for range 200 {
		at := randomPlaces(r, 2, 100)
		list := randomEdges(r, 2, 1000)
		narrow := min(list[0].Hi-list[0].Lo, list[1].Hi-list[1].Lo)
		sum := rat(best(t, api.PeelLog{At: at[:2], Edges: list}))
		if sum.Add(sum, sum).Cmp(whole(narrow)) != 0 {
			t.Fatal(at, list)
		}
		step, taper := r.Int63n(9)-4, r.Int63n(9)-4
		var l api.PeelLog
		for _, x := range at {
			wide := 400 + taper*x
			l.At = append(l.At, x)
			l.Edges = append(l.Edges, api.Range{Lo: step*x - 300, Hi: step*x - 300 + wide})
			if x == at[0] || wide < narrow {
				narrow = wide
			}
		}
		sum = rat(best(t, l))
		if sum.Add(sum, sum).Cmp(whole(narrow)) != 0 {
			t.Fatal(l)
		}
	}
}
