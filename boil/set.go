package boil

import (
	"cmp"
	"math/bits"
)

// firstBit is the bit of the cause 0, the highest one: so of two sets with as many causes the greater number has the list that comes first.
const firstBit uint16 = 1 << 15

// set is a set of causes, with a bit for each.
type set struct {
	causes uint16
}

// of returns the set of some causes.
func of(causes ...int) set {
	var s set
	for _, cause := range causes {
		s.causes |= firstBit >> cause
	}
	return s
}

func (s set) with(t set) set { return set{s.causes | t.causes} }

func (s set) without(t set) set { return set{s.causes &^ t.causes} }

func (s set) meets(t set) bool { return s.causes&t.causes != 0 }

func (s set) size() int { return bits.OnesCount16(s.causes) }

// list returns the causes of a set, strictly increasing.
func (s set) list() []int {
	var causes []int
	for s != (set{}) {
		first := bits.LeadingZeros16(s.causes)
		causes = grown(causes, first)
		s = s.without(of(first))
	}
	return causes
}

// smaller compares two sets: the one with fewer causes comes first, and of two with as many the one whose list does.
func smaller(s, t set) int {
	return cmp.Or(cmp.Compare(s.size(), t.size()), cmp.Compare(t.causes, s.causes))
}
