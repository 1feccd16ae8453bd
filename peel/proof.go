package peel

import (
	"iter"

	"crossband/api"
)

// alone is the Side of a proof of one place.
const alone = 0

// none are the places of what is not a proof.
var none = [3]int{-1, -1, -1}

// places returns the places of a proof, or none if it is not one.
func (l *lathe) places(p api.PeelProof) [3]int {
	found := [3]int{p.First, p.Middle, p.Last}
	for _, place := range found {
		if place < 0 || place >= len(l.At) {
			return none
		}
	}
	switch p.Side {
	case alone:
		if found == [3]int{p.First, p.First, p.First} {
			return found
		}
	case api.PeelUnder, api.PeelOver:
		if p.First < p.Middle && p.Middle < p.Last {
			return found
		}
	}
	return none
}

// proofs yields all proofs, those of one place first.
func (l *lathe) proofs() iter.Seq[api.PeelProof] {
	return func(yield func(api.PeelProof) bool) {
		for i := range l.At {
			if !yield(api.PeelProof{First: i, Middle: i, Last: i, Side: alone}) {
				return
			}
		}
		for last := range l.At {
			for middle := range last {
				for first := range middle {
					for _, side := range []int{api.PeelUnder, api.PeelOver} {
						if !yield(api.PeelProof{First: first, Middle: middle, Last: last, Side: side}) {
							return
						}
					}
				}
			}
		}
	}
}

// proves returns what a proof proves.
func (l *lathe) proves(p api.PeelProof) api.Ratio {
	zero := whole(0)
	low, high := l.lower(p.Middle, zero), l.upper(p.Middle, zero)
	switch p.Side {
	case api.PeelUnder:
		height := between(l.lower(p.First, zero), l.lower(p.Last, zero))
		return part(minus(high.y, height(high.x)), 1, 2)
	case api.PeelOver:
		height := between(l.upper(p.First, zero), l.upper(p.Last, zero))
		return part(minus(height(low.x), low.y), 1, 2)
	}
	return part(minus(high.y, low.y), 1, 2)
}
