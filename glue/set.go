package glue

import (
	"iter"
	"math/bits"
)

// firstBit is the bit of the panel 0, the highest one: so of two sets with as many panels the greater number has the list that comes first.
const firstBit uint16 = 1 << 15

// set is a set of panels, with a bit for each.
type set struct {
	panels uint16
}

// of returns the set of some panels.
func of(panels ...int) set {
	var s set
	for _, panel := range panels {
		s.panels |= firstBit >> panel
	}
	return s
}

// between returns the set of the panels from one to another one.
func between(first, last int) set {
	var s set
	for panel := first; panel <= last; panel++ {
		s.panels |= firstBit >> panel
	}
	return s
}

func (s set) without(t set) set { return set{s.panels &^ t.panels} }

func (s set) meets(t set) bool { return s.panels&t.panels != 0 }

func (s set) size() int { return bits.OnesCount16(s.panels) }

// first returns the set of the first panel of a set that has one.
func (s set) first() set { return of(bits.LeadingZeros16(s.panels)) }

// list returns the panels of a set, strictly increasing.
func (s set) list() []int {
	var panels []int
	for s != (set{}) {
		panels = grown(panels, bits.LeadingZeros16(s.panels))
		s = s.without(s.first())
	}
	return panels
}

// subsets yields the sets of one panel or more that have only panels of s. Those that have its first panel come before the others, and of those with as many panels the one whose list comes first.
func (s set) subsets() iter.Seq[set] {
	return func(yield func(set) bool) {
		for t := s; t != (set{}) && yield(t); {
			t.panels = (t.panels - 1) & s.panels
		}
	}
}

// isLarger reports whether a set has more panels than another one.
func isLarger(s, t set) bool { return s.size() > t.size() }
