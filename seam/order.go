package seam

import "iter"

// orders yields the orders of so many strips, in lexicographic order.
func orders(many int) iter.Seq[[]int] {
	return func(yield func([]int) bool) { grow(nil, many, yield) }
}

// grow yields the orders of so many strips that begin with some of them, and reports whether more are asked for.
func grow(order []int, many int, yield func([]int) bool) bool {
	if len(order) == many {
		return yield(order)
	}
search:
	for strip := range many {
		for _, other := range order {
			if strip == other {
				continue search
			}
		}
		if !grow(grown(order, strip), many, yield) {
			return false
		}
	}
	return true
}
