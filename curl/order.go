package curl

import "iter"

// orders yields the orders of so many sheets, in lexicographic order.
func orders(many int) iter.Seq[[]int] {
	return func(yield func([]int) bool) { grow(nil, choice{}, many, yield) }
}

// grow yields the orders of so many sheets that begin with some of them, which are chosen, and reports whether more are asked for.
func grow(order []int, c choice, many int, yield func([]int) bool) bool {
	if len(order) == many {
		return yield(order)
	}
	for sheet := range many {
		if !c[sheet] && !grow(grown(order, sheet), c.with(sheet), many, yield) {
			return false
		}
	}
	return true
}
