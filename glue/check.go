package glue

import "crossband/api"

// within reports whether all numbers are from lo to hi.
func within[N int | int64](lo, hi N, numbers ...N) bool {
	for _, n := range numbers {
		if n < lo || n > hi {
			return false
		}
	}
	return true
}

// areMinutes reports whether a range is valid, and from 1 to the most minutes.
func areMinutes(r api.Range) bool {
	return r.Lo <= r.Hi && within(1, api.MaxGlueMinutes, r.Lo, r.Hi)
}

// isGlue reports whether a batch can be so much.
func isGlue(amount int64) bool { return within(1, api.MaxGluePot, amount) }

// How many of the last batches the next panel can come to, beside a new one.
const (
	reachOfRow  = 1
	reachOfPlan = api.MaxGluePanels // all
)

// areNumbers reports whether numbers of batches are a row, or a plan, by its reach.
func areNumbers(numbers []int, reach int) bool {
	used := 0
	for _, batch := range numbers {
		if !within(max(0, used-reach), used, batch) {
			return false
		}
		used = max(used, batch+1)
	}
	return true
}
