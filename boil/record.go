package boil

import (
	"iter"

	"crossband/api"
)

// record is trials, and what those that held clear.
type record struct {
	trials  []api.BoilTrial
	cleared set
}

// kept returns the record of trials.
func kept(trials []api.BoilTrial) record {
	r := record{trials: trials}
	for trial, t := range trials {
		if r.held(trial) {
			r.cleared = r.cleared.with(of(causesOf(t.Panel)...))
		}
	}
	return r
}

// failed yields the trials that failed.
func (r record) failed() iter.Seq[int] {
	return func(yield func(int) bool) {
		for trial, t := range r.trials {
			if t.Failed && !yield(trial) {
				return
			}
		}
	}
}

// held reports whether a trial held.
func (r record) held(trial int) bool { return !r.trials[trial].Failed }

// suspects returns the causes of a trial that are not clear.
func (r record) suspects(trial int) set {
	return of(causesOf(r.trials[trial].Panel)...).without(r.cleared)
}

// isExplained reports whether each panel that failed has one of some causes, none of which is clear.
func (r record) isExplained(causes set) bool {
	for trial := range r.failed() {
		if !causes.meets(r.suspects(trial)) {
			return false
		}
	}
	return true
}

// unclear returns the first trial that failed, but all of whose causes are clear, and whether there is one.
func (r record) unclear() (int, bool) {
search:
	for trial := range r.failed() {
		for _, cause := range causesOf(r.trials[trial].Panel) {
			if !r.cleared.meets(of(cause)) {
				continue search
			}
		}
		return trial, true
	}
	return 0, false
}

// areTrials reports whether a list is strictly increasing, and of trials.
func (r record) areTrials(list []int) bool { return isRising(list, len(r.trials)-1) }

// areApart reports whether no two trials of a list have a cause in common that is not clear.
func (r record) areApart(list []int) bool {
	var seen set
	for _, trial := range list {
		if seen.meets(r.suspects(trial)) {
			return false
		}
		seen = seen.with(r.suspects(trial))
	}
	return true
}

// apart yields the lists of trials that are apart, in lexicographic order.
func (r record) apart() iter.Seq[[]int] {
	return func(yield func([]int) bool) { r.goOn(nil, set{}, 0, yield) }
}

// goOn yields a list of trials that are apart, and all those with which it goes on with trials from next on, and reports whether more are asked for. Their suspects are none of those that were seen in the list.
func (r record) goOn(list []int, seen set, next int, yield func([]int) bool) bool {
	if !yield(list) {
		return false
	}
	for trial := next; trial < len(r.trials); trial++ {
		suspects := r.suspects(trial)
		if r.held(trial) || seen.meets(suspects) {
			continue
		}
		if !r.goOn(grown(list, trial), seen.with(suspects), trial+1, yield) {
			return false
		}
	}
	return true
}
