package seam

import "crossband/api"

// within reports whether all numbers are from lo to hi.
func within[N int | int64](lo, hi N, numbers ...N) bool {
	for _, n := range numbers {
		if n < lo || n > hi {
			return false
		}
	}
	return true
}

// every reports whether something holds for all elements of a list, each with its index.
func every[T any](list []T, holds func(i int, x T) bool) bool {
	for i, x := range list {
		if !holds(i, x) {
			return false
		}
	}
	return true
}

// hasStrips reports whether a layer has as many strips as one can have.
func hasStrips(_ int, layer []int64) bool { return within(1, api.MaxSeamStrips, len(layer)) }

// hasWidths reports whether the strips of a layer are as wide as strips can be.
func hasWidths(_ int, layer []int64) bool { return within(1, api.MaxSeamWidth, layer...) }

// width returns how wide strips are together.
func width(strips []int64) int64 {
	sum := int64(0)
	for _, n := range strips {
		sum += n
	}
	return sum
}
