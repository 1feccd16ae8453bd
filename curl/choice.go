package curl

import (
	"iter"

	"crossband/api"
)

// choice is which sheets of a panel are chosen.
type choice [api.MaxCurlSheets]bool

// with returns a choice with one sheet more.
func (c choice) with(sheet int) choice {
	c[sheet] = true
	return c
}

// choices yields the choices of so many sheets, those of fewer before those of more.
func choices(many int) iter.Seq[choice] {
	return func(yield func(choice) bool) {
		for more := range many + 1 {
			if !choose(choice{}, more, 0, many, yield) {
				return
			}
		}
	}
}

// choose yields the choices that have so many more of the sheets from next on, and reports whether more are asked for.
func choose(c choice, more, next, many int, yield func(choice) bool) bool {
	if more == 0 {
		return yield(c)
	}
	for sheet := next; sheet < many; sheet++ {
		if !choose(c.with(sheet), more-1, sheet+1, many, yield) {
			return false
		}
	}
	return true
}
