package patch

import (
	"iter"
	"math/bits"
)

// firstBit is the bit of the knot 0, the highest one: so of two sets with as many knots the greater number has the list that comes first.
const firstBit uint16 = 1 << 15

// set is a set of knots, with a bit for each.
type set struct {
	knots uint16
}

// of returns the set of some knots.
func of(knots ...int) set {
	var s set
	for _, knot := range knots {
		s.knots |= firstBit >> knot
	}
	return s
}

func (s set) with(t set) set { return set{s.knots | t.knots} }

func (s set) without(t set) set { return set{s.knots &^ t.knots} }

func (s set) meets(t set) bool { return s.knots&t.knots != 0 }

func (s set) size() int { return bits.OnesCount16(s.knots) }

// first returns the set of the first knot of a set, and that of none for that of none.
func (s set) first() set {
	if s == (set{}) {
		return s
	}
	return of(bits.LeadingZeros16(s.knots))
}

// list returns the knots of a set, strictly increasing.
func (s set) list() []int {
	var knots []int
	for s != (set{}) {
		knots = grown(knots, bits.LeadingZeros16(s.knots))
		s = s.without(s.first())
	}
	return knots
}

// subsets yields the sets of one knot or more that have only knots of s. Of those with as many knots, the one whose list comes first comes first.
func (s set) subsets() iter.Seq[set] {
	return func(yield func(set) bool) {
		for t := s; t != (set{}) && yield(t); {
			t.knots = (t.knots - 1) & s.knots
		}
	}
}

// isLarger reports whether a set has more knots than another one.
func isLarger(s, t set) bool { return s.size() > t.size() }
