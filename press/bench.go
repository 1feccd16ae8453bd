package press

import (
	"cmp"
	"iter"
	"slices"

	"crossband/api"
)

// counts is how many panels want each heat, the heat being the index.
type counts [api.MaxPressHeat + 1]int

// bench is a bench with its bed, and the panels that wait on it.
type bench struct {
	api.PressBed
	panels []api.PressPanel
	whole  []int  // the whole openings
	waits  []int  // all panels, from the one that takes longest on
	wants  counts // how many of all panels want each heat
	seen   counts // how many of those that were looked at do
}

// lay returns a bench with panels, or the error of the bed or the panels.
func lay(bed api.PressBed, panels []api.PressPanel) (*bench, api.Errno) {
	if e := CheckBed(bed); e != api.OK {
		return nil, e
	}
	if e := CheckPanels(panels); e != api.OK {
		return nil, e
	}
	b := &bench{PressBed: bed, panels: panels, whole: whole(bed)}
	for panel, p := range panels {
		b.waits = grown(b.waits, panel)
		b.wants[p.Heat]++
	}
	slices.SortStableFunc(b.waits, b.longer)
	return b, api.OK
}

// layBy returns a bench with panels that are pressed by turns, or the error of the bed, the panels or the turns.
func layBy(bed api.PressBed, panels []api.PressPanel, turns [][]int) (*bench, api.Errno) {
	b, e := lay(bed, panels)
	if e != api.OK {
		return nil, e
	}
	if e := b.check(turns); e != api.OK {
		return nil, e
	}
	return b, api.OK
}

// whole returns the whole openings of a bed.
func whole(bed api.PressBed) []int {
	var list []int
	for opening := range bed.Openings {
		if !slices.Contains(bed.Broken, opening) {
			list = grown(list, opening)
		}
	}
	return list
}

func (b *bench) heat(panel int) int { return b.panels[panel].Heat }

func (b *bench) hours(panel int) int64 { return b.panels[panel].Hours }

// longer compares two panels: the one that takes longer comes first.
func (b *bench) longer(panel, other int) int { return cmp.Compare(b.hours(other), b.hours(panel)) }

// of yields the panels that want a heat, from the one that takes longest on.
func (b *bench) of(heat int) iter.Seq[int] {
	return func(yield func(int) bool) {
		for _, panel := range b.waits {
			if b.heat(panel) == heat && !yield(panel) {
				return
			}
		}
	}
}

// sum returns the Hours of some panels, all together.
func (b *bench) sum(panels []int) int64 {
	sum := int64(0)
	for _, panel := range panels {
		sum += b.hours(panel)
	}
	return sum
}

// firsts returns the panels that begin turns in so many openings if of each heat those that take longest are pressed first. No turns are pressed for fewer hours than these panels take: they are marks that prove it.
func (b *bench) firsts(openings int) []int {
	var firsts []int
	clear(b.seen[:])
	for _, panel := range b.waits {
		heat := b.heat(panel)
		if b.seen[heat]%openings == 0 {
			firsts = grown(firsts, panel)
		}
		b.seen[heat]++
	}
	return firsts
}

// fewest returns the fewest hours for which turns can be pressed in so many openings.
func (b *bench) fewest(openings int) int64 { return b.sum(b.firsts(openings)) }

// prove reports whether marks prove the sum of their Hours.
func (b *bench) prove(marks []int) bool {
	clear(b.seen[:])
	for _, panel := range b.waits {
		if !slices.Contains(marks, panel) {
			continue
		}
		heat := b.heat(panel)
		if b.asLong(panel) <= b.seen[heat]*len(b.whole) {
			return false
		}
		b.seen[heat]++
	}
	return true
}

// asLong returns how many panels want the heat of a panel, and have at least its Hours.
func (b *bench) asLong(panel int) int {
	many := 0
	for other := range b.of(b.heat(panel)) {
		if b.hours(other) >= b.hours(panel) {
			many++
		}
	}
	return many
}

// way returns by how much the heat changes, all together, if it has to be each of some, one after another.
func (b *bench) way(heats []int) int64 {
	way, at := 0, b.Heat
	for _, heat := range heats {
		way += max(heat-at, at-heat)
		at = heat
	}
	return int64(way)
}

// route returns the heats that panels want in the order that has the shortest way. Both ends of them have to be reached, and on the way from one to the other one all are.
func (b *bench) route() []int {
	var up []int
	for heat, many := range b.wants {
		if many > 0 {
			up = grown(up, heat)
		}
	}
	down := taken(up)
	slices.Reverse(down)
	return pick([][]int{up, down}, func(heats, others []int) int {
		return cmp.Compare(b.way(heats), b.way(others))
	})
}

// needed returns how few whole openings are enough for so many hours, and whether any are. More of them than panels are of no use.
func (b *bench) needed(hours int64) (int, bool) {
	hours -= b.Change * b.way(b.route())
search:
	for openings := 1; openings <= max(1, len(b.panels)); openings++ {
		left := hours
		for _, panel := range b.firsts(openings) {
			left -= b.hours(panel)
			if left < 0 {
				continue search
			}
		}
		return openings, true
	}
	return 0, false
}
