package steam

import (
	"cmp"
	"iter"
	"slices"

	"crossband/api"
)

// hourCount is how many hours there are, from 0 on.
const hourCount int64 = api.MaxSteamHours + 1

// counts are how many logs have each hour.
type counts [hourCount]int64

// vat is the vat, with the yard whose logs are steamed in it.
type vat struct {
	api.SteamYard
	needs  map[api.Range]int64  // what windows need, but for those that need nothing
	upTo   [hourCount + 1]int64 // what proofs with windows before each hour prove at most
	having counts
}

// lay returns a vat with a yard, or the error of the yard.
func lay(y api.SteamYard) (*vat, api.Errno) {
	if e := CheckYard(y); e != api.OK {
		return nil, e
	}
	v := &vat{needs: map[api.Range]int64{}}
	v.put(y)
	return v, api.OK
}

// put gives the vat a valid yard. Nothing is left of what was told of the yard before it.
func (v *vat) put(y api.SteamYard) {
	v.SteamYard = y
	clear(v.needs)
	for hour := range hourCount {
		for w := range v.windows(hour) {
			v.needs[w] = v.need(w)
		}
	}
	for w, loads := range v.needs {
		if loads == 0 {
			delete(v.needs, w)
		}
	}
	for hour := range hourCount {
		v.upTo[hour+1] = most(v.upTo[hour], v.windows(hour), v.provenWith)
	}
}

// windows yields the windows that end at an hour, if the range of a log does, and begin where that of a log does. Any other window that needs something has one of these within it that needs as much.
func (v *vat) windows(end int64) iter.Seq[api.Range] {
	return func(yield func(api.Range) bool) {
		ends := func(log api.Range) bool { return log.Hi == end }
		if !slices.ContainsFunc(v.Logs, ends) {
			return
		}
		for _, log := range v.Logs {
			if log.Lo <= end && !yield(api.Range{Lo: log.Lo, Hi: end}) {
				return
			}
		}
	}
}

// need returns what a window needs.
func (v *vat) need(w api.Range) int64 {
	var many int64
	for _, log := range v.Logs {
		if within(w.Lo, w.Hi, log.Lo, log.Hi) {
			many++
		}
	}
	return v.loadsFor(many)
}

// loadsFor returns how many loads so many logs fill that are steamed at the same hour.
func (v *vat) loadsFor(logs int64) int64 { return (logs + v.Load - 1) / v.Load }

// provenWith returns what proofs prove at most that end with a window.
func (v *vat) provenWith(w api.Range) int64 { return v.upTo[w.Lo] + v.needs[w] }

// fewest returns the fewest loads: as many as a proof proves at most, since the late loads are no more and are enough.
func (v *vat) fewest() int64 { return v.upTo[hourCount] }

// proof returns windows that prove the fewest loads. Each of them needs a load, so they are no more than the logs.
func (v *vat) proof() []api.Range {
	var windows []api.Range
	hour := hourCount
search:
	for hour > 0 {
		for w := range v.windows(hour - 1) {
			if _, ok := v.needs[w]; ok && v.provenWith(w) == v.upTo[hour] {
				windows = grown(windows, w)
				hour = w.Lo
				continue search
			}
		}
		hour--
	}
	slices.Reverse(windows)
	return windows
}

// late returns the late loads. As many loads are at the hours up to each one as proofs with windows up to it prove: there can be no fewer, so no load can be later. They are enough, because each window has as many as it needs.
func (v *vat) late() []int64 {
	var loads []int64
	for hour := range hourCount {
		for range v.upTo[hour+1] - v.upTo[hour] {
			loads = grown(loads, hour)
		}
	}
	return loads
}

// loads returns the loads of right hours.
func (v *vat) loads(right []int64) int64 {
	clear(v.having[:])
	for _, hour := range right {
		v.having[hour]++
	}
	var loads int64
	if v.having == (counts{}) { // nothing is steamed
		return loads
	}
	for _, logs := range v.having {
		loads += v.loadsFor(logs)
	}
	return loads
}

// right returns right hours whose loads are the late ones. The logs whose ranges end first choose first, and each takes the first hour that has room. This is no mistake: if some other log were to have that hour, the two could change places, as the range of the other one ends no sooner.
func (v *vat) right() []int64 {
	var room counts
	for _, hour := range v.late() {
		room[hour] += v.Load
	}
	clear(v.having[:])
	right := make([]int64, len(v.Logs))
search:
	for _, i := range v.byEnd() {
		for hour := v.Logs[i].Lo; hour <= v.Logs[i].Hi; hour++ {
			if v.having[hour] < room[hour] {
				v.having[hour]++
				right[i] = hour
				continue search
			}
		}
	}
	return right
}

// byEnd returns the logs in the order in which their ranges end.
func (v *vat) byEnd() []int {
	var logs []int
	for i := range v.Logs {
		logs = grown(logs, i)
	}
	slices.SortStableFunc(logs, func(i, j int) int { return cmp.Compare(v.Logs[i].Hi, v.Logs[j].Hi) })
	return logs
}

// countedBack returns a yard whose hours are counted back from the last one.
func countedBack(y api.SteamYard) api.SteamYard {
	back := api.SteamYard{Load: y.Load}
	for _, log := range y.Logs {
		back.Logs = grown(back.Logs, api.Range{Lo: api.MaxSteamHours - log.Hi, Hi: api.MaxSteamHours - log.Lo})
	}
	return back
}

// only returns a yard with only some of its logs.
func only(y api.SteamYard, logs []int) api.SteamYard {
	part := api.SteamYard{Load: y.Load}
	for _, i := range logs {
		part.Logs = grown(part.Logs, y.Logs[i])
	}
	return part
}
