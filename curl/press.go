package curl

import "crossband/api"

// From which layer on every second one lies along, or across.
const (
	along = iota
	across
)

// ends is what a sheet pulls, or a moment, at both ends of Damp. At any damp between them it is between both.
type ends struct {
	lo, hi int64
}

// with returns a moment with one layer more, by its place and what its sheet pulls.
func (m ends) with(place int64, pulls ends) ends {
	return ends{m.lo + place*pulls.lo, m.hi + place*pulls.hi}
}

// size returns how great a moment is at most, without its sign.
func (m ends) size() int64 { return max(size(m.lo), size(m.hi)) }

// size returns a number without its sign.
func size(n int64) int64 { return max(n, -n) }

// press is a press, with the panel that is laid into it.
type press struct {
	api.CurlPanel
	marks choice // the sheets that an order was seen to have
}

// fill returns a press with a panel, or the error of the panel.
func fill(p api.CurlPanel) (*press, api.Errno) {
	if e := CheckPanel(p); e != api.OK {
		return nil, e
	}
	return &press{CurlPanel: p}, api.OK
}

// fillBy returns a press with a panel that is laid by an order, or the error of the panel, or of the order.
func fillBy(p api.CurlPanel, order []int) (*press, api.Errno) {
	f, e := fill(p)
	switch {
	case e != api.OK:
		return nil, e
	case !f.isOrder(order):
		return nil, api.ErrRule
	}
	return f, api.OK
}

// isOrder reports whether a list is an order: as many sheets as there are, none of them twice.
func (f *press) isOrder(list []int) bool {
	if len(list) != len(f.Sheets) {
		return false
	}
	clear(f.marks[:])
	for _, sheet := range list {
		if !f.isIndex(sheet) || f.marks[sheet] {
			return false
		}
		f.marks[sheet] = true
	}
	return true
}

// isIndex reports whether a number names a sheet.
func (f *press) isIndex(sheet int) bool { return within(0, len(f.Sheets)-1, sheet) }

// place returns the place of a layer.
func (f *press) place(layer int) int64 { return int64(layer - len(f.Sheets)/2) }

// pulls returns what a sheet pulls.
func (f *press) pulls(s api.CurlSheet) ends {
	return ends{s.Pull + s.More*f.Damp.Lo, s.Pull + s.More*f.Damp.Hi}
}

// own returns what a sheet of the panel pulls.
func (f *press) own(sheet int) ends { return f.pulls(f.Sheets[sheet]) }

// moment returns the moment along, or across, of an order, by what its sheets pull.
func (f *press) moment(order []int, first int, pulls func(sheet int) ends) ends {
	var m ends
	for layer := first; layer < len(order); layer += 2 {
		m = m.with(f.place(layer), pulls(order[layer]))
	}
	return m
}

// curl returns the curl of an order. Between both ends of Damp no moment is greater.
func (f *press) curl(order []int) int64 {
	return max(f.moment(order, along, f.own).size(), f.moment(order, across, f.own).size())
}

// best returns the first order with the least curl.
func (f *press) best() []int {
	best, _ := pick(orders(len(f.Sheets)), func(order, other []int) bool {
		return f.curl(order) < f.curl(other)
	})
	return best
}
