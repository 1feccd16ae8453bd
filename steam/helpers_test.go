package steam_test

import (
	"math/rand"
	"slices"
	"testing"

	"crossband/api"
	"crossband/steam"
)

func longs(x ...int64) []int64  { return x }
func indexes(x ...int) []int    { return x }
func to(lo, hi int64) api.Range { return api.Range{Lo: lo, Hi: hi} }

// ranges returns a range for each two numbers.
func ranges(x ...int64) []api.Range {
	var out []api.Range
	for i := 0; i < len(x); i += 2 {
		out = append(out, to(x[i], x[i+1]))
	}
	return out
}

// yard returns a yard with a log for each two numbers.
func yard(load int64, x ...int64) api.SteamYard {
	return api.SteamYard{Load: load, Logs: ranges(x...)}
}

// yardA and yardB are A and B of the chapter's examples.
func yardA() api.SteamYard { return yard(2, 2, 5, 3, 4, 4, 8, 6, 9, 7, 7) }
func yardB() api.SteamYard { return yard(1) }

// many returns so many times the same log.
func many(load int64, logs int, lo, hi int64) api.SteamYard {
	return api.SteamYard{Load: load, Logs: slices.Repeat(ranges(lo, hi), logs)}
}

// randomLog returns a log with a range up to an hour, of up to so many hours.
func randomLog(r *rand.Rand, last, wide int64) api.Range {
	lo := r.Int63n(last + 1)
	return to(lo, min(last, lo+r.Int63n(wide)))
}

// randomYard returns a yard of up to so many logs.
func randomYard(r *rand.Rand, load int64, logs int, last, wide int64) api.SteamYard {
	out := api.SteamYard{Load: 1 + r.Int63n(load)}
	for range r.Intn(logs + 1) {
		out.Logs = append(out.Logs, randomLog(r, last, wide))
	}
	return out
}

// eachSmall calls f with yards whose logs can have so few hours that all of them can be listed.
func eachSmall(t *testing.T, times int, f func(r *rand.Rand, y api.SteamYard)) {
	t.Helper()
	each(t, times, func(r *rand.Rand) api.SteamYard {
		return randomYard(r, 3, 5, 3+r.Int63n(5), 4)
	}, f)
}

// eachLarge calls f with yards up to the limits.
func eachLarge(t *testing.T, times int, f func(r *rand.Rand, y api.SteamYard)) {
	t.Helper()
	each(t, times, func(r *rand.Rand) api.SteamYard {
		return randomYard(r, []int64{2, 4, 10}[r.Intn(3)], 10, []int64{12, 30, 100}[r.Intn(3)], []int64{4, 12, 101}[r.Intn(3)])
	}, f)
}

func each(t *testing.T, times int, random func(r *rand.Rand) api.SteamYard, f func(r *rand.Rand, y api.SteamYard)) {
	t.Helper()
	r := rand.New(rand.NewSource(int64(times)))
	for _, y := range []api.SteamYard{yardA(), yardB(), many(2, 5, 0, 0), many(1, 5, 100, 100)} {
		f(r, y)
		if t.Failed() {
			t.Fatal(y)
		}
	}
	for range times {
		y := random(r)
		f(r, y)
		if t.Failed() {
			t.Fatal(y)
		}
	}
}

func roundedUp(many, load int64) int64 {
	if many%load == 0 {
		return many / load
	}
	return many/load + 1
}

// inOrder returns the loads of hours, in order.
func inOrder(load int64, hours []int64) []int64 {
	logs := map[int64]int64{}
	for _, hour := range hours {
		logs[hour]++
	}
	var out []int64
	for hour, n := range logs {
		for range roundedUp(n, load) {
			out = append(out, hour)
		}
	}
	slices.Sort(out)
	return out
}

// needs returns what a window needs.
func needs(y api.SteamYard, w api.Range) int64 {
	var logs int64
	for _, log := range y.Logs {
		if w.Lo <= log.Lo && log.Hi <= w.Hi {
			logs++
		}
	}
	return roundedUp(logs, y.Load)
}

// eachHours calls f with all right hours.
func eachHours(y api.SteamYard, f func(hours []int64)) {
	hours := make([]int64, len(y.Logs))
	var choose func(log int)
	choose = func(log int) {
		if log == len(hours) {
			f(hours)
			return
		}
		for hour := y.Logs[log].Lo; hour <= y.Logs[log].Hi; hour++ {
			hours[log] = hour
			choose(log + 1)
		}
	}
	choose(0)
}

// byHand returns the loads, in order, of all right hours with the fewest loads.
func byHand(y api.SteamYard) [][]int64 {
	var best [][]int64
	eachHours(y, func(hours []int64) {
		loads := inOrder(y.Load, hours)
		if len(best) > 0 && len(loads) < len(best[0]) {
			best = nil
		}
		if len(best) == 0 || len(loads) == len(best[0]) {
			best = append(best, loads)
		}
	})
	return best
}

// areRight reports whether hours are right.
func areRight(y api.SteamYard, hours []int64) bool {
	if len(hours) != len(y.Logs) {
		return false
	}
	for i, log := range y.Logs {
		if hours[i] < log.Lo || hours[i] > log.Hi {
			return false
		}
	}
	return true
}

// areEnough reports whether all logs can be steamed in loads. Each log finds a place in one of them, from which another log may have to go first.
func areEnough(y api.SteamYard, loads []int64) bool {
	in := make([][]int, len(loads)) // the logs of each load
	var find func(log int, tried []bool) bool
	find = func(log int, tried []bool) bool {
		for load, hour := range loads {
			if tried[load] || hour < y.Logs[log].Lo || hour > y.Logs[log].Hi {
				continue
			}
			tried[load] = true
			if int64(len(in[load])) < y.Load {
				in[load] = append(in[load], log)
				return true
			}
			for place, other := range in[load] {
				if find(other, tried) {
					in[load][place] = log
					return true
				}
			}
		}
		return false
	}
	for log := range y.Logs {
		if !find(log, make([]bool, len(loads))) {
			return false
		}
	}
	return true
}

// told returns what a function tells of a valid yard.
func told[T any](t *testing.T, f func(api.SteamYard) (T, api.Errno), y api.SteamYard) T {
	t.Helper()
	x, e := f(y)
	if e != api.OK {
		t.Fatal(y, e)
	}
	return x
}

func fewest(t *testing.T, y api.SteamYard) int64 {
	t.Helper()
	return told(t, steam.Fewest, y)
}

func hoursOf(t *testing.T, y api.SteamYard) []int64 {
	t.Helper()
	return told(t, steam.Hours, y)
}

func proofOf(t *testing.T, y api.SteamYard) []api.Range {
	t.Helper()
	return told(t, steam.Proof, y)
}

func early(t *testing.T, y api.SteamYard) []int64 {
	t.Helper()
	return told(t, steam.Early, y)
}

func late(t *testing.T, y api.SteamYard) []int64 {
	t.Helper()
	return told(t, steam.Late, y)
}

func keep(t *testing.T, y api.SteamYard, loads int64) []int {
	t.Helper()
	logs, e := steam.Keep(y, loads)
	if e != api.OK {
		t.Fatal(y, loads, e)
	}
	return logs
}

// part returns a yard with only some of its logs.
func part(y api.SteamYard, logs []int) api.SteamYard {
	out := api.SteamYard{Load: y.Load}
	for _, log := range logs {
		out.Logs = append(out.Logs, y.Logs[log])
	}
	return out
}

// where returns a yard with only the logs that are as they should be.
func where(y api.SteamYard, is func(log api.Range) bool) api.SteamYard {
	out := api.SteamYard{Load: y.Load}
	for _, log := range y.Logs {
		if is(log) {
			out.Logs = append(out.Logs, log)
		}
	}
	return out
}

// countedBack returns hours counted back from the last one, the other way round.
func countedBack(hours []int64) []int64 {
	var out []int64
	for _, hour := range hours {
		out = append(out, 100-hour)
	}
	slices.Reverse(out)
	return out
}

// later returns hours that are as much later.
func later(hours []int64, by int64) []int64 {
	var out []int64
	for _, hour := range hours {
		out = append(out, hour+by)
	}
	return out
}

// subsets returns all strictly increasing lists of the numbers below n, in lexicographic order.
func subsets(n int) [][]int {
	var out [][]int
	for mask := range 1 << n {
		var list []int
		for i := range n {
			if mask>>i&1 == 1 {
				list = append(list, i)
			}
		}
		out = append(out, list)
	}
	slices.SortFunc(out, slices.Compare[[]int])
	return out
}

// countOf returns how many numbers are as they should be.
func countOf(list []int64, is func(int64) bool) int64 {
	var out int64
	for _, x := range list {
		if is(x) {
			out++
		}
	}
	return out
}
