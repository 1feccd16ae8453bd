// Package peel is layer 1: see shared/doc/01-peel.md.
package peel

import (
	"slices"

	"crossband/api"
)

// CheckLog reports whether a log is valid. (P1.1)
func CheckLog(l api.PeelLog) api.Errno { return checkPlaces(l.At, l.Edges) }

// CheckLine reports whether a line is valid. (P1.2)
func CheckLine(line api.PeelLine) api.Errno {
	if !within(1, api.MaxPeelDen, line.Den) || !within(-api.MaxPeelLine, api.MaxPeelLine, line.Start, line.Step) {
		return api.ErrRange
	}
	return api.OK
}

// Core returns the core of a line. (P1.2)
func Core(l api.PeelLog, line api.PeelLine) (api.Ratio, api.Errno) {
	on, e := lay(l)
	if e != api.OK {
		return api.Ratio{}, e
	}
	if e := CheckLine(line); e != api.OK {
		return api.Ratio{}, e
	}
	return on.core(straight{line}.height), api.OK
}

// Best returns the best core of a log. (P1.3)
func Best(l api.PeelLog) (api.Ratio, api.Errno) {
	on, e := lay(l)
	if e != api.OK {
		return api.Ratio{}, e
	}
	return on.best(), api.OK
}

// Line returns a line with the best core. (P1.3)
func Line(l api.PeelLog) (api.PeelLine, api.Errno) {
	on, e := lay(l)
	if e != api.OK {
		return api.PeelLine{}, e
	}
	// Some corner keeps the best core. The Den of that core is at most 200, and places are at most 100 apart, so the Den of the line is at most 20,000. It is at most 2,000 high at both places, so it starts at most 402,000 high: the line is valid.
	return lineOf(on.keeping(on.best())[0]), api.OK
}

// CheckProof returns what a proof proves. (P1.4)
func CheckProof(l api.PeelLog, p api.PeelProof) (api.Ratio, api.Errno) {
	on, e := lay(l)
	if e != api.OK {
		return api.Ratio{}, e
	}
	if on.places(p) == none {
		return api.Ratio{}, api.ErrArg
	}
	return on.proves(p), api.OK
}

// Proof returns a proof of the best core. (P1.4)
func Proof(l api.PeelLog) (api.PeelProof, api.Errno) {
	on, e := lay(l)
	if e != api.OK {
		return api.PeelProof{}, e
	}
	on.best()
	var least []api.PeelProof
	for p := range on.proofs() { // not over the map, whose order differs from call to call
		if _, ok := on.bounds[p]; ok {
			least = grown(least, p)
		}
	}
	return least[0], api.OK
}

// Heights returns the heights of lines that keep a core. (P1.5)
func Heights(l api.PeelLog, core, x int64) (api.Ratio, api.Ratio, api.Errno) {
	on, e := lay(l)
	if e != api.OK {
		return api.Ratio{}, api.Ratio{}, e
	}
	if !within(-api.MaxPeelCore, api.MaxPeelCore, core) || !within(0, api.MaxPeelAt, x) {
		return api.Ratio{}, api.Ratio{}, api.ErrRange
	}
	var found []api.Ratio
	for _, height := range on.keeping(whole(core)) {
		found = grown(found, height(x))
	}
	if len(found) == 0 {
		return api.Ratio{}, api.Ratio{}, api.ErrPeel
	}
	return pick(slices.Values(found), less), pick(slices.Values(found), more), api.OK
}

// Turns returns how many turns are peeled. (P1.6)
func Turns(l api.PeelLog, spindle, sheet int64) (int64, api.Errno) {
	on, e := lay(l)
	if e != api.OK {
		return 0, e
	}
	if !within(0, api.MaxPeelEdge, spindle) || !within(1, api.MaxPeelEdge, sheet) {
		return 0, api.ErrRange
	}
	left := minus(on.best(), whole(spindle))
	if left.Num < 0 {
		return 0, api.ErrPeel
	}
	return left.Num / (left.Den * sheet), api.OK
}

// CheckRough reports whether a rough log is valid. (P1.1)
func CheckRough(r api.PeelRough) api.Errno {
	if e := checkPlaces(r.At, r.Low, r.High); e != api.OK {
		return e
	}
	for i := range r.At {
		if r.Low[i].Hi > r.High[i].Lo {
			return api.ErrRule
		}
	}
	return api.OK
}

// Span returns the best core at least and at most. (P1.7)
func Span(r api.PeelRough) (api.Ratio, api.Ratio, api.Errno) {
	if e := CheckRough(r); e != api.OK {
		return api.Ratio{}, api.Ratio{}, e
	}
	// With wider edges the best core is no less, so the narrowest truth has the least one, and the widest the greatest.
	var narrow, wide []api.Range
	for i := range r.At {
		narrow = grown(narrow, api.Range{Lo: r.Low[i].Hi, Hi: r.High[i].Lo})
		wide = grown(wide, api.Range{Lo: r.Low[i].Lo, Hi: r.High[i].Hi})
	}
	l := newLathe()
	l.put(api.PeelLog{At: r.At, Edges: narrow})
	least := l.best()
	l.put(api.PeelLog{At: r.At, Edges: wide})
	return least, l.best(), api.OK
}
