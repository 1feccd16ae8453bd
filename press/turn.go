package press

import (
	"slices"

	"crossband/api"
)

// check returns the error of turns.
func (b *bench) check(turns [][]int) api.Errno {
	left := b.wants
	for i, turn := range turns {
		if e := b.checkTurn(turn, slices.Concat(turns[:i]...)); e != api.OK {
			return e
		}
		left[b.heat(turn[0])] -= len(turn)
	}
	if left != (counts{}) {
		return api.ErrSum
	}
	return api.OK
}

// checkTurn returns the error of a turn, by the panels that were pressed before it.
func (b *bench) checkTurn(turn, before []int) api.Errno {
	wantsOther := func(panel int) bool { return b.heat(panel) != b.heat(turn[0]) }
	wasPressed := func(panel int) bool { return slices.Contains(before, panel) }
	switch {
	case len(turn) == 0 || !areIndexes(turn, len(b.panels)):
		return api.ErrArg
	case len(turn) > len(b.whole):
		return api.ErrFull
	case slices.ContainsFunc(turn, wantsOther):
		return api.ErrPress
	case slices.ContainsFunc(turn, wasPressed):
		return api.ErrRule
	}
	return api.OK
}

// turns returns turns that are pressed for the fewest hours, and have the shortest way: each one takes the panels that take longest of those that are left of its heat.
func (b *bench) turns() [][]int {
	var turns [][]int
	for _, heat := range b.route() {
		var turn []int
		for panel := range b.of(heat) {
			if len(turn) == len(b.whole) {
				turns = grown(turns, turn)
				turn = nil
			}
			turn = grown(turn, panel)
		}
		turns = grown(turns, turn)
	}
	for _, turn := range turns {
		slices.Sort(turn)
	}
	return turns
}

// pressed returns for how many hours turns are pressed.
func (b *bench) pressed(turns [][]int) int64 {
	var longest []int
	for _, turn := range turns {
		longest = grown(longest, pick(turn, b.longer))
	}
	return b.sum(longest)
}

// wayOf returns the way of turns.
func (b *bench) wayOf(turns [][]int) int64 {
	var heats []int
	for _, turn := range turns {
		heats = grown(heats, b.heat(turn[0]))
	}
	return b.way(heats)
}

// done returns when each panel is done.
func (b *bench) done(turns [][]int) []int64 {
	done := make([]int64, len(b.panels))
	for i, turn := range turns {
		upTo := turns[:i+1]
		end := b.pressed(upTo) + b.Change*b.wayOf(upTo)
		for _, panel := range turn {
			done[panel] = end
		}
	}
	return done
}

// place is an opening in a turn.
type place struct {
	turn, opening int
}

// nobody lies at a place that is left empty.
const nobody = -1

// empty returns the places of so many turns, at which nobody lies yet. At those of openings that leak nobody can.
func (b *bench) empty(turns int) map[place]int {
	lying := map[place]int{}
	for turn := range turns {
		for opening := range b.Openings {
			lying[place{turn, opening}] = nobody
		}
		for _, opening := range b.Broken {
			delete(lying, place{turn, opening})
		}
	}
	return lying
}

// lying returns which panel lies at each place.
func (b *bench) lying(turns [][]int) map[place]int {
	lying := b.empty(len(turns))
	for number, turn := range turns {
		left := turn
		for opening := range b.Openings {
			at := place{number, opening}
			if _, ok := lying[at]; ok && len(left) > 0 {
				lying[at] = left[0]
				left = left[1:]
			}
		}
	}
	return lying
}

// lie returns in which opening each panel lies.
func (b *bench) lie(turns [][]int) []int {
	openings := make([]int, len(b.panels))
	for at, panel := range b.lying(turns) {
		if panel != nobody {
			openings[panel] = at.opening
		}
	}
	return openings
}
