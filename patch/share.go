package patch

import (
	"iter"

	"crossband/api"
)

// canShare reports whether two knots can share: a patch that has both has their least rectangle.
func (b *bench) canShare(i, j int) bool {
	return b.check(joined(b.at[i], b.at[j])) == api.OK
}

// related returns for each of so many knots the set of the other ones that it can share with.
func related(many int, canShare func(i, j int) bool) []set {
	shares := make([]set, many)
	for i := range many {
		for j := range i {
			if canShare(i, j) {
				shares[i] = shares[i].with(of(j))
				shares[j] = shares[j].with(of(i))
			}
		}
	}
	return shares
}

// alone yields the sets of knots that are alone, in the order of subsets.
func (b *bench) alone() iter.Seq[set] {
	return func(yield func(set) bool) {
	search:
		for s := range b.knots().subsets() {
			for _, knot := range s.list() {
				if s.meets(b.shares[knot]) {
					continue search
				}
			}
			if !yield(s) {
				return
			}
		}
	}
}

// parts returns the sets of knots that hang together, in the order of their first knots.
func (b *bench) parts() []set {
	var parts []set
	for left := b.knots(); left != (set{}); {
		part := b.hanging(left.first())
		parts = grown(parts, part)
		left = left.without(part)
	}
	return parts
}

// hanging returns the set of the knots that hang together with those of a set.
func (b *bench) hanging(s set) set {
	for more := s; more != (set{}); {
		var next set
		for _, knot := range more.list() {
			next = next.with(b.shares[knot])
		}
		more = next.without(s)
		s = s.with(more)
	}
	return s
}
