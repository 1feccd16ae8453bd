package boil

import "maps"

// explanations is sets of causes that explain the failures that were looked at: all those from which no cause can be left out, and others.
type explanations map[set]bool

// explain returns the sets that explain one more failure, which only some causes can: those that have one of these, and of the others each with one of them.
func (x explanations) explain(suspects set) explanations {
	more, each := explanations{}, suspects.list()
	for s := range x {
		if s.meets(suspects) {
			more[s] = true
			continue
		}
		for _, cause := range each {
			more[s.with(of(cause))] = true
		}
	}
	return more
}

// keepSmallest deletes the sets that have more causes than others.
func (x explanations) keepSmallest() {
	few := pick(maps.Keys(x), smaller).size()
	for s := range x {
		if s.size() > few {
			delete(x, s)
		}
	}
}
