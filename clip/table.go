package clip

import (
	"iter"

	"crossband/api"
)

// worths are what cuts up to each place are worth at most.
type worths [api.MaxClipLength + 1]int64

// table is a ribbon on the table, under the knife.
type table struct {
	api.ClipRibbon
	kinds  []api.ClipKind
	faults func(from, to int) int64 // how many faults lie between two places
	upTo   worths
	ways   [api.MaxClipLength + 1]int64 // in how many ways best cuts go on at each place: 0 if none part it
	best   map[api.ClipSheet]bool       // the sheets of all best cuts
}

// lay returns a table with a ribbon, or the error of the ribbon or the kinds.
func lay(r api.ClipRibbon, kinds []api.ClipKind) (*table, api.Errno) {
	if e := CheckRibbon(r); e != api.OK {
		return nil, e
	}
	if e := CheckKinds(kinds); e != api.OK {
		return nil, e
	}
	t := &table{kinds: kinds, best: map[api.ClipSheet]bool{}}
	t.put(r)
	return t, api.OK
}

// put lays a valid ribbon on the table. Nothing is left of what was told of the ribbon before it.
func (t *table) put(r api.ClipRibbon) {
	t.ClipRibbon = r
	marks := make([]int64, t.Length)
	for _, unit := range t.Faults {
		marks[unit] = 1
	}
	t.faults = sums(marks)
	clear(t.upTo[:])
	clear(t.ways[:])
	clear(t.best)
	t.goUp()
	t.goBack()
}

// goUp tells what cuts up to each place are worth at most, and keeps the sheets that such cuts end with.
func (t *table) goUp() {
	for place := 1; place <= t.Length; place++ {
		t.upTo[place] = most(t.upTo[place-1], t.sheets(place), t.worthWith)
		for s := range t.sheets(place) {
			if t.worthWith(s) == t.upTo[place] {
				t.best[s] = true
			}
		}
	}
}

// goBack tells in how many ways best cuts go on at each place, and deletes the sheets that lead to nothing best. A place with a sheet of one unit has no best waste, so the ways grow by no more than 6 times with each unit: 6^24 is below 2^63.
func (t *table) goBack() {
	t.ways[t.Length] = 1
	for place := t.Length; place > 0; place-- {
		if t.upTo[place-1] == t.upTo[place] {
			t.ways[place-1] += t.ways[place]
		}
		for s := range t.sheets(place) {
			if t.ways[place] == 0 {
				delete(t.best, s)
			}
			if t.best[s] {
				t.ways[s.From] += t.ways[place]
			}
		}
	}
}

// sheets yields the sheets that can be cut and end at a place.
func (t *table) sheets(place int) iter.Seq[api.ClipSheet] {
	return func(yield func(api.ClipSheet) bool) {
		for kind, k := range t.kinds {
			s := api.ClipSheet{From: place - k.Width, Kind: kind}
			if t.canCut(s) && !yield(s) {
				return
			}
		}
	}
}

// isNamed reports whether a sheet has a place and a kind.
func (t *table) isNamed(s api.ClipSheet) bool {
	return within(0, t.Length, s.From) && within(0, len(t.kinds)-1, s.Kind)
}

// canCut reports whether a sheet can be cut; its kind is one.
func (t *table) canCut(s api.ClipSheet) bool {
	if s.From < 0 || t.end(s) > t.Length {
		return false
	}
	return t.faults(s.From, t.end(s)) <= int64(t.kinds[s.Kind].Most)
}

// end returns the place where a sheet ends.
func (t *table) end(s api.ClipSheet) int { return s.From + t.kinds[s.Kind].Width }

func (t *table) price(s api.ClipSheet) int64 { return t.kinds[s.Kind].Price }

// worthWith returns what cuts that end with a sheet are worth at most.
func (t *table) worthWith(s api.ClipSheet) int64 { return t.upTo[s.From] + t.price(s) }

// worth returns what best cuts are worth.
func (t *table) worth() int64 { return t.upTo[t.Length] }

// first returns the first best cuts: as soon as best cuts can have a sheet, they have the least kind of one.
func (t *table) first() []api.ClipSheet {
	var cuts []api.ClipSheet
	if t.upTo == (worths{}) { // no sheet can be cut
		return cuts
	}
	place := 0
search:
	for place < t.Length {
		for kind := range t.kinds {
			s := api.ClipSheet{From: place, Kind: kind}
			if t.best[s] {
				cuts = grown(cuts, s)
				place = t.end(s)
				continue search
			}
		}
		place++
	}
	return cuts
}

// parted returns when a place is parted.
func (t *table) parted(place int) int {
	if t.ways[place] == 0 {
		return api.ClipNever
	}
	for s := range t.best {
		if s.From < place && place < t.end(s) {
			return api.ClipMay
		}
	}
	return api.ClipAlways
}
