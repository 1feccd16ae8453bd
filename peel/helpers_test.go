package peel_test

import (
	"math/big"
	"math/rand"
	"testing"

	"crossband/api"
	"crossband/peel"
)

func longs(x ...int64) []int64    { return x }
func by(num, den int64) api.Ratio { return api.Ratio{Num: num, Den: den} }
func rat(r api.Ratio) *big.Rat    { return big.NewRat(r.Num, r.Den) }
func whole(n int64) *big.Rat      { return big.NewRat(n, 1) }

// line returns a line: Den, Start, Step.
func line(den, start, step int64) api.PeelLine {
	return api.PeelLine{Den: den, Start: start, Step: step}
}

func proof(first, middle, last, side int) api.PeelProof {
	return api.PeelProof{First: first, Middle: middle, Last: last, Side: side}
}

// edges returns a range for each two numbers.
func edges(x ...int64) []api.Range {
	var out []api.Range
	for i := 0; i < len(x); i += 2 {
		out = append(out, api.Range{Lo: x[i], Hi: x[i+1]})
	}
	return out
}

func log(at []int64, x ...int64) api.PeelLog { return api.PeelLog{At: at, Edges: edges(x...)} }

// logA, logB and roughR are A, B and R of the chapter's examples.
func logA() api.PeelLog { return log(longs(0, 2, 4), 0, 6, 1, 8, 0, 6) }
func logB() api.PeelLog { return log(longs(0, 1), 0, 4, 2, 10) }
func roughR() api.PeelRough {
	return api.PeelRough{At: longs(0, 2, 4), Low: edges(0, 1, 1, 1, 0, 0), High: edges(6, 6, 8, 9, 6, 6)}
}

// equalRatio fails unless a fraction in least terms is a number.
func equalRatio(t *testing.T, got api.Ratio, want *big.Rat) {
	t.Helper()
	if got.Num != want.Num().Int64() || got.Den != want.Denom().Int64() {
		t.Fatalf("got %v, want %v", got, want)
	}
}

// randomPlaces returns from low to 8 places, up to farthest.
func randomPlaces(r *rand.Rand, low, farthest int) []int64 {
	n := low + r.Intn(api.MaxPeelPlaces-low+1)
	used := r.Perm(farthest + 1)[:n]
	var at []int64
	for x := 0; x <= farthest; x++ {
		for _, u := range used {
			if u == x {
				at = append(at, int64(x))
			}
		}
	}
	return at
}

// randomEdges returns n ranges up to such a height.
func randomEdges(r *rand.Rand, n int, height int64) []api.Range {
	var out []api.Range
	for range n {
		a, b := r.Int63n(2*height+1)-height, r.Int63n(2*height+1)-height
		out = append(out, api.Range{Lo: min(a, b), Hi: max(a, b)})
	}
	return out
}

func randomLog(r *rand.Rand) api.PeelLog {
	farthest := []int{7, 20, 100}[r.Intn(3)]
	height := []int64{1, 6, 50, 1000}[r.Intn(4)]
	at := randomPlaces(r, 2, farthest)
	return api.PeelLog{At: at, Edges: randomEdges(r, len(at), height)}
}

func eachLog(t *testing.T, times int, f func(r *rand.Rand, l api.PeelLog)) {
	t.Helper()
	r := rand.New(rand.NewSource(int64(times)))
	f(r, logA())
	f(r, logB())
	for range times {
		l := randomLog(r)
		f(r, l)
		if t.Failed() {
			t.Fatalf("log %v", l)
		}
	}
}

func best(t *testing.T, l api.PeelLog) api.Ratio {
	t.Helper()
	v, e := peel.Best(l)
	if e != api.OK {
		t.Fatalf("Best(%v): %v", l, e)
	}
	return v
}

func core(t *testing.T, l api.PeelLog, y api.PeelLine) api.Ratio {
	t.Helper()
	v, e := peel.Core(l, y)
	if e != api.OK {
		t.Fatalf("Core(%v, %v): %v", l, y, e)
	}
	return v
}

// less reports whether a is less than b.
func less(a, b api.Ratio) bool { return rat(a).Cmp(rat(b)) < 0 }

// bestBySlopes finds the best core in a way of its own: for one slope the best core is half of what is left between the lowest upper edge and the highest lower one, after both were sheared by it; that is concave in the slope, and bends only at slopes of two upper edges or two lower ones.
func bestBySlopes(l api.PeelLog) *big.Rat {
	var found *big.Rat
	try := func(rise, run int64) {
		slope := big.NewRat(rise, run)
		var top, bottom *big.Rat
		for i, x := range l.At {
			shear := new(big.Rat).Mul(slope, whole(x))
			high := new(big.Rat).Sub(whole(l.Edges[i].Hi), shear)
			low := new(big.Rat).Sub(whole(l.Edges[i].Lo), shear)
			if top == nil || high.Cmp(top) < 0 {
				top = high
			}
			if bottom == nil || low.Cmp(bottom) > 0 {
				bottom = low
			}
		}
		half := new(big.Rat).Sub(top, bottom)
		half.Mul(half, big.NewRat(1, 2))
		if found == nil || half.Cmp(found) > 0 {
			found = half
		}
	}
	for j := range l.At {
		for i := range j {
			run := l.At[j] - l.At[i]
			try(l.Edges[j].Lo-l.Edges[i].Lo, run)
			try(l.Edges[j].Hi-l.Edges[i].Hi, run)
		}
	}
	return found
}

// spot is a height at a number.
type spot struct{ x, y int64 }

// heightAt returns the height at x of the straight line through two spots.
func heightAt(a, b spot, x int64) *big.Rat {
	h := big.NewRat((b.y-a.y)*(x-a.x), b.x-a.x)
	return h.Add(h, whole(a.y))
}

// leastHeight finds the least height of x in a way of its own: it is held up by the lower bound at x, by those on both sides of x, or by an upper and then a lower one on the same side.
func leastHeight(l api.PeelLog, core, x int64) *big.Rat {
	var found *big.Rat
	take := func(h *big.Rat) {
		if found == nil || h.Cmp(found) > 0 {
			found = h
		}
	}
	low := func(i int) spot { return spot{l.At[i], l.Edges[i].Lo + core} }
	high := func(i int) spot { return spot{l.At[i], l.Edges[i].Hi - core} }
	for j := range l.At {
		if l.At[j] == x {
			take(whole(low(j).y))
		}
		for i := range j {
			switch {
			case l.At[j] < x:
				take(heightAt(high(i), low(j), x))
			case x < l.At[i]:
				take(heightAt(low(i), high(j), x))
			case l.At[i] < x && x < l.At[j]:
				take(heightAt(low(i), low(j), x))
			}
		}
	}
	return found
}

// upsideDown returns a log with all heights below 0 that were above it.
func upsideDown(l api.PeelLog) api.PeelLog {
	out := api.PeelLog{At: l.At}
	for _, e := range l.Edges {
		out.Edges = append(out.Edges, api.Range{Lo: -e.Hi, Hi: -e.Lo})
	}
	return out
}
