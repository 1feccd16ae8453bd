package boil_test

import (
	"math/bits"
	"math/rand"
	"slices"
	"testing"

	"crossband/api"
	"crossband/boil"
)

func of(x ...int) []int        { return x }
func lists(x ...[]int) [][]int { return x }

// panel returns the panel that the chapter writes so.
func panel(mix, opening, hour int) api.BoilPanel {
	return api.BoilPanel{Mix: mix, Opening: opening, Hour: hour}
}

// The last number of a trial.
const (
	held   = 0
	failed = 1
)

// trials returns a trial for each four numbers.
func trials(x ...int) []api.BoilTrial {
	var out []api.BoilTrial
	for i := 0; i < len(x); i += 4 {
		out = append(out, api.BoilTrial{Panel: panel(x[i], x[i+1], x[i+2]), Failed: x[i+3] == failed})
	}
	return out
}

// with returns trials with others behind them, in other memory.
func with(list []api.BoilTrial, others ...api.BoilTrial) []api.BoilTrial {
	return append(slices.Clone(list), others...)
}

// boiled returns a trial of a panel.
func boiled(p api.BoilPanel, failed bool) api.BoilTrial {
	return api.BoilTrial{Panel: p, Failed: failed}
}

// trialsT, trialsU and trialsV are T, U and V of the chapter's examples.
func trialsT() []api.BoilTrial {
	return trials(0, 1, 2, failed, 0, 0, 0, held, 1, 1, 0, failed, 1, 2, 2, failed, 2, 2, 0, held)
}
func trialsU() []api.BoilTrial { return with(trialsT(), trials(0, 0, 2, held)...) }
func trialsV() []api.BoilTrial { return with(trialsU(), trials(1, 1, 1, held)...) }

// allApart returns five trials that failed and have no cause in common.
func allApart() []api.BoilTrial {
	return trials(0, 0, 0, failed, 1, 1, 1, failed, 2, 2, 2, failed, 3, 3, 3, failed, 4, 4, 4, failed)
}

// oneEach returns a trial that held, and those that failed of all panels that have just one other cause.
func oneEach() []api.BoilTrial {
	out := trials(0, 0, 0, held)
	for n := 1; n < 5; n++ {
		out = append(out, trials(n, 0, 0, failed, 0, n, 0, failed, 0, 0, n, failed)...)
	}
	return out
}

// goodTrials are valid trials, many of them at the edges.
var goodTrials = [][]api.BoilTrial{
	nil,
	trialsT(),
	trialsU(),
	trialsV(),
	trials(0, 0, 0, failed),
	trials(4, 4, 4, failed),
	trials(0, 0, 0, held),
	trials(4, 4, 4, held),
	trials(1, 2, 3, failed, 1, 2, 3, held),
	trials(1, 2, 3, held, 1, 2, 3, failed),
	trials(1, 2, 3, failed, 1, 2, 3, failed),
	trials(1, 2, 3, held, 0, 0, 0, failed, 1, 2, 3, failed),
	trials(0, 0, 0, failed, 1, 1, 1, failed),
	trials(0, 0, 0, failed, 0, 1, 1, failed, 0, 2, 2, failed),
	trials(0, 0, 0, held, 1, 0, 0, failed, 0, 1, 0, failed, 0, 0, 1, failed),
	oneEach(),
	trials(0, 0, 0, failed, 0, 1, 1, failed, 1, 0, 1, failed, 1, 1, 0, failed),
	trials(0, 1, 2, held, 3, 4, 0, held, 1, 2, 3, held, 4, 0, 1, held, 2, 3, 4, held),
	trials(0, 1, 2, held, 3, 4, 0, held, 1, 2, 3, held, 4, 0, 1, held, 2, 3, 4, held, 1, 1, 1, failed, 0, 4, 2, failed),
	allApart(),
	with(allApart(), trials(0, 1, 2, held)...),
	with(allApart(), trials(0, 1, 2, failed, 1, 2, 3, failed, 2, 3, 4, failed, 3, 4, 0, failed, 4, 0, 1, failed)...),
	slices.Repeat(trials(4, 4, 4, failed), 16),
	slices.Repeat(trials(0, 0, 0, held), 16),
	with(slices.Repeat(trials(2, 1, 0, failed), 15), trials(2, 1, 0, held)...),
	slices.Repeat(trials(0, 0, 0, failed, 1, 1, 1, failed, 2, 2, 2, failed, 3, 3, 3, failed), 4),
	slices.Repeat(trialsT(), 3),
}

// causesByHand returns the causes of a panel.
func causesByHand(p api.BoilPanel) []int { return of(p.Mix, 5+p.Opening, 10+p.Hour) }

// clearByHand returns the causes that are clear.
func clearByHand(list []api.BoilTrial) []int {
	var out []int
	for cause := range 15 {
		if slices.ContainsFunc(list, func(t api.BoilTrial) bool { return !t.Failed && has(t.Panel, cause) }) {
			out = append(out, cause)
		}
	}
	return out
}

// has reports whether a panel has a cause.
func has(p api.BoilPanel, cause int) bool { return slices.Contains(causesByHand(p), cause) }

// failsBy reports whether a panel fails by some causes.
func failsBy(p api.BoilPanel, causes []int) bool {
	return slices.ContainsFunc(causes, func(cause int) bool { return has(p, cause) })
}

// faultOfCauses returns the error of causes.
func faultOfCauses(list []api.BoilTrial, causes []int) api.Errno {
	clear := clearByHand(list)
	switch {
	case !isRising(causes, 15):
		return api.ErrArg
	case slices.ContainsFunc(causes, func(cause int) bool { return slices.Contains(clear, cause) }):
		return api.ErrRule
	case slices.ContainsFunc(list, func(t api.BoilTrial) bool { return t.Failed && !failsBy(t.Panel, causes) }):
		return api.ErrBoil
	}
	return api.OK
}

// isRising reports whether a list is strictly increasing, and of numbers from 0 on that are less than end.
func isRising(list []int, end int) bool {
	for i, n := range list {
		if n < 0 || n >= end || i > 0 && list[i-1] >= n {
			return false
		}
	}
	return true
}

// mask returns a number with a bit for each of a list.
func mask(list []int) int {
	set := 0
	for _, n := range list {
		set |= 1 << n
	}
	return set
}

// members returns the numbers of the bits that are set.
func members(set int) []int {
	var out []int
	for n := 0; set>>n > 0; n++ {
		if set>>n&1 == 1 {
			out = append(out, n)
		}
	}
	return out
}

// allByHand returns the smallest explanations, from a list of all sets of causes.
func allByHand(list []api.BoilTrial) [][]int {
	clear := mask(clearByHand(list))
	var wanted []int
	for _, t := range list {
		if t.Failed {
			wanted = append(wanted, mask(causesByHand(t.Panel)))
		}
	}
	var out [][]int
	few := 15
	for set := range 1 << 15 {
		many := bits.OnesCount(uint(set))
		if many > few || set&clear != 0 || slices.ContainsFunc(wanted, func(m int) bool { return m&set == 0 }) {
			continue
		}
		if many < few {
			few, out = many, nil
		}
		out = append(out, members(set))
	}
	slices.SortFunc(out, slices.Compare[[]int])
	return out
}

// unclearByHand returns the first trial that failed, but all of whose causes are clear, or -1.
func unclearByHand(list []api.BoilTrial) int {
	return slices.IndexFunc(list, func(t api.BoilTrial) bool { return t.Failed && len(openOf(list, t.Panel)) == 0 })
}

// openOf returns the causes of a panel that are not clear.
func openOf(list []api.BoilTrial, p api.BoilPanel) []int {
	clear := clearByHand(list)
	return slices.DeleteFunc(causesByHand(p), func(cause int) bool { return slices.Contains(clear, cause) })
}

// faultOfApart returns the error of trials that may be apart.
func faultOfApart(list []api.BoilTrial, apart []int) api.Errno {
	if !isRising(apart, len(list)) {
		return api.ErrArg
	}
	fault := api.OK
	for i, trial := range apart {
		if !list[trial].Failed {
			return api.ErrRange
		}
		for _, other := range apart[:i] {
			if failsBy(list[other].Panel, openOf(list, list[trial].Panel)) {
				fault = api.ErrRule
			}
		}
	}
	return fault
}

// apartByHand returns the first one of the longest lists of trials that are apart, from all lists of trials.
func apartByHand(list []api.BoilTrial) []int {
	near := make([]int, len(list)) // the other trials with which one has a cause in common that is not clear
	wanted := 0
	for i, t := range list {
		for j, other := range list {
			if i != j && failsBy(other.Panel, openOf(list, t.Panel)) {
				near[i] |= 1 << j
			}
		}
		if t.Failed {
			wanted |= 1 << i
		}
	}
	var best []int
	most := 0
	for set := range 1 << len(list) {
		many := bits.OnesCount(uint(set))
		if set&^wanted != 0 || many < most {
			continue
		}
		apart := members(set)
		if slices.ContainsFunc(apart, func(i int) bool { return near[i]&set != 0 }) {
			continue
		}
		if many > most || slices.Compare(apart, best) < 0 {
			best, most = apart, many
		}
	}
	return best
}

// number returns how many of some explanations a panel fails by.
func number(all [][]int, p api.BoilPanel) int {
	n := 0
	for _, causes := range all {
		if failsBy(p, causes) {
			n++
		}
	}
	return n
}

// having returns how many of some explanations have a cause.
func having(all [][]int, cause int) int {
	n := 0
	for _, causes := range all {
		if slices.Contains(causes, cause) {
			n++
		}
	}
	return n
}

// eachPanel calls f with all panels, in their order.
func eachPanel(f func(p api.BoilPanel)) {
	for n := range 125 {
		f(panel(n/25, n/5%5, n%5))
	}
}

// nextByHand returns the first panel that tells most, and how much it tells.
func nextByHand(all [][]int) (api.BoilPanel, int) {
	var best api.BoilPanel
	most := 0
	eachPanel(func(p api.BoilPanel) {
		n := number(all, p)
		if n = min(n, len(all)-n); n > most {
			best, most = p, n
		}
	})
	return best, most
}

// randomPanel returns a panel with numbers that are less than end.
func randomPanel(r *rand.Rand, end int) api.BoilPanel {
	return panel(r.Intn(end), r.Intn(end), r.Intn(end))
}

// randomTrials returns up to so many trials: those of panels that fail by some causes, or any; some of them twice.
func randomTrials(r *rand.Rand, most int) []api.BoilTrial {
	var out []api.BoilTrial
	end, sort, often := min(5, 1+r.Intn(7)), r.Intn(5), 3+r.Intn(7)
	causes := r.Perm(15)[:1+r.Intn(5)]
	for range max(r.Intn(most+1), r.Intn(most+1)) {
		p := randomPanel(r, end)
		if len(out) > 0 && r.Intn(8) == 0 {
			p = out[r.Intn(len(out))].Panel
		}
		fails := failsBy(p, causes)
		switch sort {
		case 0:
			fails = true
		case 1, 2:
			fails = r.Intn(10) < often
		}
		out = append(out, boiled(p, fails))
	}
	return out
}

// full is the greatest number of trials; few are so many that all lists of them can be looked at often.
const (
	full = api.MaxBoilTrials
	few  = 10
)

// each calls f with the good trials, and with others, up to so many.
func each(t *testing.T, times, most int, f func(r *rand.Rand, list []api.BoilTrial)) {
	t.Helper()
	r := rand.New(rand.NewSource(int64(times)))
	for i := range len(goodTrials) + times {
		list := randomTrials(r, most)
		if i < len(goodTrials) {
			list = slices.Clone(goodTrials[i])
		}
		if len(list) > most {
			continue
		}
		f(r, list)
		if t.Failed() {
			t.Fatal(list)
		}
	}
}

// eachExplained calls f with trials for which there is an explanation, and all of the smallest ones.
func eachExplained(t *testing.T, times, most int, f func(r *rand.Rand, list []api.BoilTrial, all [][]int)) {
	t.Helper()
	explained := 0
	each(t, times, most, func(r *rand.Rand, list []api.BoilTrial) {
		if unclearByHand(list) < 0 {
			explained++
			f(r, list, told(t, boil.All, list))
		}
	})
	if explained < times/2 {
		t.Error("too few that are explained", explained)
	}
}

// told returns what a function tells of trials with which it returns no error.
func told[T any](t *testing.T, f func([]api.BoilTrial) (T, api.Errno), list []api.BoilTrial) T {
	t.Helper()
	x, e := f(list)
	if e != api.OK {
		t.Fatal(list, e)
	}
	return x
}

// first returns the result of a call, and its error.
func first[T any](x T, e api.Errno) (any, api.Errno) { return x, e }

// fails returns by how many of the smallest explanations a panel fails.
func fails(t *testing.T, list []api.BoilTrial, p api.BoilPanel) int {
	t.Helper()
	return told(t, func(list []api.BoilTrial) (int, api.Errno) { return boil.Fails(list, p) }, list)
}

// equal reports whether two lists of lists are equal.
func equal(a, b [][]int) bool { return slices.EqualFunc(a, b, slices.Equal[[]int]) }
