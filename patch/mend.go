package patch

import (
	"iter"

	"crossband/api"
)

// mending is how few patches mend a set of knots, and how few cells as few cover. One of the patches has the knots of first.
type mending struct {
	patches, cells int
	first          set
}

// isBetter reports whether a mending has fewer patches, or as many that cover fewer cells.
func isBetter(m, n mending) bool {
	if m.patches != n.patches {
		return m.patches < n.patches
	}
	return m.cells < n.cells
}

// mend returns as few patches as mend the sheet, and cover as few cells. No patch has knots of two parts, so each part is mended by itself.
func (b *bench) mend() []api.PatchPiece {
	var patches []api.PatchPiece
	for _, part := range b.parts() {
		b.gather(part)
		clear(b.mended)
		for left := part; left != (set{}); {
			s := b.best(left).first
			patches = grown(patches, b.under[s])
			left = left.without(s)
		}
	}
	return patches
}

// gather keeps the sets of knots of a part that can be under one patch: those whose least rectangle can lie.
func (b *bench) gather(part set) {
	clear(b.under)
	for s := range part.subsets() {
		b.under[s] = b.around(s)
	}
	for s, p := range b.under {
		if b.check(p) != api.OK {
			delete(b.under, s)
		}
	}
}

// around returns the least rectangle with all knots of a set, which has one at least.
func (b *bench) around(s set) api.PatchPiece {
	knots := s.list()
	p := b.at[knots[0]]
	for _, knot := range knots[1:] {
		p = joined(p, b.at[knot])
	}
	return p
}

// best returns how a set of knots of the part is mended. There is a way: each knot has a patch of its own, at worst.
func (b *bench) best(s set) mending {
	if s == (set{}) {
		return mending{}
	}
	if m, ok := b.mended[s]; ok {
		return m
	}
	m, _ := pick(b.ways(s), isBetter)
	b.mended[s] = m
	return m
}

// ways yields the ways to mend a set of knots that begin with a patch for its first one and some other ones; what is left is mended as well as can be. No two patches need to have the same knot: around the other knots of a patch lies one that is no larger.
func (b *bench) ways(s set) iter.Seq[mending] {
	return func(yield func(mending) bool) {
		for t := range s.subsets() {
			p, ok := b.under[t]
			if !ok || !t.meets(s.first()) {
				continue
			}
			left := b.best(s.without(t))
			if !yield(mending{left.patches + 1, left.cells + cells(p), t}) {
				return
			}
		}
	}
}

// having returns the set of the knots that a patch has.
func (b *bench) having(p api.PatchPiece) set {
	var s set
	for knot, at := range b.at {
		if joined(p, at) == p {
			s = s.with(of(knot))
		}
	}
	return s
}
