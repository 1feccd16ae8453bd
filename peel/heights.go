package peel

import "crossband/api"

// heights tells how high a line is at x.
type heights func(x int64) api.Ratio

// straight is a line that tells its heights.
type straight struct {
	api.PeelLine
}

func (s straight) height(x int64) api.Ratio { return ratio(s.Start+x*s.Step, s.Den) }

// point is a height at the number x.
type point struct {
	x int64
	y api.Ratio
}

// between returns the heights of the straight line through two points; b is farther along the log than a.
func between(a, b point) heights {
	rise := minus(b.y, a.y)
	return func(x int64) api.Ratio {
		return plus(a.y, part(rise, x-a.x, b.x-a.x))
	}
}

// lineOf returns the line that has such heights, with the least Den.
func lineOf(height heights) api.PeelLine {
	start := height(0)
	step := minus(height(1), start)
	den := start.Den / gcd(start.Den, step.Den) * step.Den
	return api.PeelLine{Den: den, Start: start.Num * (den / start.Den), Step: step.Num * (den / step.Den)}
}
