package grade

import (
	"cmp"

	"crossband/api"
)

// within reports whether all numbers are from lo to hi.
func within[N int | int64](lo, hi N, numbers ...N) bool {
	for _, n := range numbers {
		if n < lo || n > hi {
			return false
		}
	}
	return true
}

// areOrders reports whether orders are valid, if there are so many grades.
func areOrders(orders []api.GradeOrder, grades int) bool {
	for _, o := range orders {
		if !within(0, grades-1, o.Grade) || !within(0, api.MaxGradeMany, o.Many) {
			return false
		}
	}
	return true
}

// dearer compares two prices: the greater one comes first.
func dearer(price, other int64) int { return cmp.Compare(other, price) }
