package boil

import (
	"cmp"
	"maps"
	"slices"

	"crossband/api"
)

// counts is how many of the smallest explanations have each cause, the cause being the index.
type counts [api.MaxBoilCause + 1]int

// bench is a bench with its trials.
type bench struct {
	record
	smallest []set  // the smallest explanations, in their order, if they were asked for
	having   counts // how many of them have each cause
}

// lay returns a bench with trials, or the error of the trials.
func lay(trials []api.BoilTrial) (*bench, api.Errno) {
	if e := CheckTrials(trials); e != api.OK {
		return nil, e
	}
	return &bench{record: kept(trials)}, api.OK
}

// layExplained returns a bench with trials for which there is an explanation, or the error.
func layExplained(trials []api.BoilTrial) (*bench, api.Errno) {
	b, e := lay(trials)
	switch {
	case e != api.OK:
		return nil, e
	case !b.explain():
		return nil, api.ErrBoil
	}
	return b, api.OK
}

// explain finds the smallest explanations, and reports whether there are any.
func (b *bench) explain() bool {
	all := explanations{set{}: true}
	for trial := range b.failed() {
		all = all.explain(b.suspects(trial))
	}
	all.keepSmallest()
	b.smallest = slices.SortedFunc(maps.Keys(all), smaller)
	b.count()
	return len(b.smallest) > 0
}

// count counts how many of the smallest explanations have each cause.
func (b *bench) count() {
	clear(b.having[:])
	for _, s := range b.smallest {
		for _, cause := range s.list() {
			b.having[cause]++
		}
	}
}

// blame returns when a cause is to blame.
func (b *bench) blame(cause int) int {
	switch b.having[cause] {
	case 0:
		return api.BoilNever
	case len(b.smallest):
		return api.BoilAlways
	}
	return api.BoilMay
}

// fails returns by how many of the smallest explanations a panel fails.
func (b *bench) fails(p api.BoilPanel) int {
	if b.having == (counts{}) { // no panel failed: the only one is empty
		return 0
	}
	fails, failsBy := 0, of(causesOf(p)...).meets
	for _, s := range b.smallest {
		if failsBy(s) {
			fails++
		}
	}
	return fails
}

// tells returns what a panel tells.
func (b *bench) tells(p api.BoilPanel) int {
	fails := b.fails(p)
	return min(fails, len(b.smallest)-fails)
}

// next returns the first panel of those that tell most.
func (b *bench) next() api.BoilPanel {
	return pick(panels(), func(p, other api.BoilPanel) int {
		return cmp.Compare(b.tells(other), b.tells(p))
	})
}
