package curl

import (
	"cmp"
	"iter"
	"slices"

	"crossband/api"
)

// spot is a sheet, and the place of its layer.
type spot struct {
	sheet int
	place int64
}

// areChanges reports whether a list is one of changes.
func (f *press) areChanges(list []api.CurlChange) bool {
	next := 0
	for _, change := range list {
		if !within(next, len(f.Sheets)-1, change.Sheet) || !isSheet(change.To) {
			return false
		}
		next = change.Sheet + 1
	}
	return true
}

// change puts other sheets in the place of some. The panel gets a list of its own before.
func (f *press) change(changes []api.CurlChange) {
	f.Sheets = taken(f.Sheets)
	for _, change := range changes {
		f.Sheets[change.Sheet] = change.To
	}
}

// cure returns as few changes as cure an order. Of two sheets as far from the middle one is enough, so there are some, and no choice of more than half of the sheets is tried.
func (f *press) cure(order []int) []api.CurlChange {
	for c := range choices(len(order)) {
		if changes, ok := f.cured(order, c); ok {
			return changes
		}
	}
	return nil
}

// toBlame returns the sheets that are to blame, increasing.
func (f *press) toBlame() []int {
	var list []int
search:
	for sheet := range f.Sheets {
		for order := range orders(len(f.Sheets)) {
			if _, ok := f.cured(order, choice{}.with(sheet)); ok {
				list = grown(list, sheet)
				continue search
			}
		}
	}
	return list
}

// cured returns changes of the chosen sheets that cure an order, and whether there are any. Fewer layers lie across than along, so most choices that cannot cure are sooner known there.
func (f *press) cured(order []int, c choice) ([]api.CurlChange, bool) {
	if c == (choice{}) {
		return nil, f.curl(order) == 0
	}
	var changes []api.CurlChange
	for _, first := range []int{across, along} {
		rest := f.moment(order, first, func(sheet int) ends {
			if c[sheet] {
				return ends{}
			}
			return f.own(sheet)
		})
		more, ok := f.outweigh(rest, f.spots(order, first, c))
		if !ok {
			return nil, false
		}
		changes = append(changes, more...)
	}
	slices.SortFunc(changes, func(a, b api.CurlChange) int { return cmp.Compare(a.Sheet, b.Sheet) })
	return changes, true
}

// spots returns where the chosen sheets lie along, or across.
func (f *press) spots(order []int, first int, c choice) []spot {
	var spots []spot
	for layer := first; layer < len(order); layer += 2 {
		if c[order[layer]] {
			spots = grown(spots, spot{order[layer], f.place(layer)})
		}
	}
	return spots
}

// outweigh returns changes of the sheets at some spots with which a moment becomes nothing, and whether there are any.
func (f *press) outweigh(m ends, spots []spot) ([]api.CurlChange, bool) {
	switch len(spots) {
	case 0:
		return nil, m == (ends{})
	case 1:
		return f.outweighAlone(m, spots[0])
	}
	at, left := spots[0], spots[1:]
	reached := f.reached(m, at.place, left)
	for s := range sheets() {
		sum := m.with(at.place, f.pulls(s))
		if first, ok := reached[sum]; !ok || first != s {
			continue
		}
		if changes, ok := f.outweigh(sum, left); ok {
			return grown(changes, api.CurlChange{Sheet: at.sheet, To: s}), true
		}
	}
	return nil, false
}

// outweighAlone does so with one spot. In the middle any sheet does, or none; elsewhere there is one Pull at most for each More.
func (f *press) outweighAlone(m ends, at spot) ([]api.CurlChange, bool) {
	var s api.CurlSheet
	for s.More = -api.MaxCurlMore; s.More <= api.MaxCurlMore; s.More++ {
		if at.place != 0 {
			s.Pull = -m.lo/at.place - s.More*f.Damp.Lo
		}
		if isSheet(s) && m.with(at.place, f.pulls(s)) == (ends{}) {
			return []api.CurlChange{{Sheet: at.sheet, To: s}}, true
		}
	}
	return nil, false
}

// reached returns what a moment becomes with the sheets that there can be at a place, each with the first one that does it, but nothing that sheets at the spots that are left cannot outweigh.
func (f *press) reached(m ends, place int64, left []spot) map[ends]api.CurlSheet {
	reached := map[ends]api.CurlSheet{}
	for s := range sheets() {
		sum := m.with(place, f.pulls(s))
		if _, ok := reached[sum]; !ok {
			reached[sum] = s
		}
	}
	for sum := range reached {
		if f.isTooGreat(sum, left) {
			delete(reached, sum)
		}
	}
	return reached
}

// isTooGreat reports whether a moment is greater than those of any sheets at some spots: none pulls more than one with the greatest numbers.
func (f *press) isTooGreat(m ends, spots []spot) bool {
	greatest := api.CurlSheet{Pull: api.MaxCurlPull, More: api.MaxCurlMore}
	var most ends
	for _, at := range spots {
		most = most.with(size(at.place), f.pulls(greatest))
	}
	return size(m.lo) > most.lo || size(m.hi) > most.hi
}

// sheets yields all valid sheets.
func sheets() iter.Seq[api.CurlSheet] {
	return func(yield func(api.CurlSheet) bool) {
		for pull := range int64(api.MaxCurlPull + 1) {
			for more := int64(-api.MaxCurlMore); more <= api.MaxCurlMore; more++ {
				if !yield(api.CurlSheet{Pull: pull, More: more}) {
					return
				}
			}
		}
	}
}
