package press_test

import (
	"math/rand"
	"slices"
	"testing"

	"crossband/api"
	"crossband/press"
)

func indexes(x ...int) []int     { return x }
func longs(x ...int64) []int64   { return x }
func turnsOf(x ...[]int) [][]int { return x }
func size(n int) int             { return max(n, -n) }

func bed(openings, heat int, change int64, broken ...int) api.PressBed {
	return api.PressBed{Openings: openings, Broken: broken, Heat: heat, Change: change}
}

// panels returns a panel for each two numbers.
func panels(x ...int) []api.PressPanel {
	var out []api.PressPanel
	for i := 0; i < len(x); i += 2 {
		out = append(out, api.PressPanel{Heat: x[i], Hours: int64(x[i+1])})
	}
	return out
}

// bedB, panelsP and turnsT are B, P and T of the chapter's examples.
func bedB() api.PressBed              { return bed(3, 5, 1, 2) }
func panelsP() []api.PressPanel       { return panels(4, 6, 7, 3, 4, 5, 4, 2, 7, 3) }
func turnsT() [][]int                 { return turnsOf(indexes(0, 2), indexes(3), indexes(1, 4)) }
func alike(many int) []api.PressPanel { return slices.Repeat(panels(5, 1), many) }

// task is a bed and panels.
type task struct {
	b      api.PressBed
	panels []api.PressPanel
}

var goodTasks = []task{
	{bedB(), panelsP()},
	{bedB(), nil},
	{bed(1, 0, 0), nil},
	{bed(1, 0, 0), panels(0, 1)},
	{bed(1, 20, 10), panels(0, 24)},
	{bed(1, 5, 1), panelsP()},
	{bed(3, 5, 1), panelsP()},
	{bed(10, 5, 10), panelsP()},
	{bed(10, 4, 3, 0, 1, 2, 3, 4, 5, 6, 7, 8), panelsP()},
	{bed(10, 7, 3, 1, 2, 3, 4, 5, 6, 7, 8, 9), panelsP()},
	{bed(10, 20, 10, 0, 9), slices.Repeat(panels(20, 24), 12)},
	{bed(10, 0, 10), slices.Repeat(panels(20, 24), 12)},
	{bed(10, 3, 2), alike(12)},
	{bed(1, 3, 2), alike(12)},
	{bed(2, 10, 1), panels(0, 1, 20, 1, 9, 1, 11, 1)},
	{bed(2, 9, 1), panels(0, 1, 20, 1, 9, 1, 11, 1)},
	{bed(2, 11, 1), panels(0, 1, 20, 1, 9, 1, 11, 1)},
	{bed(2, 0, 0), panels(3, 5, 3, 5, 3, 5, 9, 1)},
	{bed(3, 7, 2), panels(7, 9, 7, 8, 7, 7, 7, 6, 7, 5, 7, 4, 7, 3)},
	{bed(4, 10, 1, 1), panels(0, 1, 2, 2, 4, 3, 6, 4, 8, 5, 10, 6, 12, 7, 14, 8, 16, 9, 18, 10, 20, 11, 1, 12)},
	{bed(2, 13, 5), panels(3, 1, 8, 24, 3, 24, 8, 1, 3, 12, 8, 12, 3, 24, 8, 24, 3, 1, 8, 1, 3, 12, 8, 12)},
}

// wholeByHand returns the whole openings.
func wholeByHand(b api.PressBed) []int {
	var out []int
	for opening := range b.Openings {
		out = append(out, opening)
	}
	return slices.DeleteFunc(out, func(opening int) bool { return slices.Index(b.Broken, opening) >= 0 })
}

// faultOfTurn returns the error of a turn, with the panels before it.
func (x task) faultOfTurn(turn []int, before [][]int) api.Errno {
	if len(turn) == 0 {
		return api.ErrArg
	}
	for i, panel := range turn {
		if panel < 0 || panel >= len(x.panels) || i > 0 && panel <= turn[i-1] {
			return api.ErrArg
		}
	}
	if len(turn) > x.b.Openings-len(x.b.Broken) {
		return api.ErrFull
	}
	for i := range turn[1:] {
		if x.panels[turn[i]].Heat != x.panels[turn[i+1]].Heat {
			return api.ErrPress
		}
	}
	for _, other := range before {
		for _, panel := range other {
			if slices.Contains(turn, panel) {
				return api.ErrRule
			}
		}
	}
	return api.OK
}

// faultOfTurns returns the error of turns.
func (x task) faultOfTurns(turns [][]int) api.Errno {
	many := 0
	for i, turn := range turns {
		if e := x.faultOfTurn(turn, turns[:i]); e != api.OK {
			return e
		}
		many += len(turn)
	}
	if many < len(x.panels) {
		return api.ErrSum
	}
	return api.OK
}

// pressed returns for how many hours turns are pressed, and their way.
func (x task) pressed(turns [][]int) (hours, way int64) {
	at := x.b.Heat
	for _, turn := range turns {
		most := int64(0)
		for _, panel := range turn {
			most = max(most, x.panels[panel].Hours)
		}
		hours += most
		way += int64(size(x.panels[turn[0]].Heat - at))
		at = x.panels[turn[0]].Heat
	}
	return hours, way
}

// takes returns how many hours turns take.
func (x task) takes(turns [][]int) int64 {
	hours, way := x.pressed(turns)
	return hours + x.b.Change*way
}

// hoursByHand returns the fewest hours for which turns can be pressed in so many openings: any panels that want the heat of the first one that is left can be with it.
func (x task) hoursByHand(openings int) int64 {
	fewest := make([]int64, 1<<len(x.panels))
	for left := 1; left < len(fewest); left++ {
		first := 0
		for left>>first&1 == 0 {
			first++
		}
		fewest[left] = 1 << 40
		for turn := left; turn > 0; turn = (turn - 1) & left {
			if turn>>first&1 == 0 {
				continue
			}
			most, ok := x.longestOf(turn, openings)
			if ok {
				fewest[left] = min(fewest[left], most+fewest[left&^turn])
			}
		}
	}
	return fewest[len(fewest)-1]
}

// longestOf returns how many hours a turn takes, by the bits of its panels, and whether it is one.
func (x task) longestOf(turn, openings int) (int64, bool) {
	most, many, heat := int64(0), 0, -1
	for panel, p := range x.panels {
		if turn>>panel&1 == 0 {
			continue
		}
		if heat >= 0 && heat != p.Heat {
			return 0, false
		}
		many++
		heat, most = p.Heat, max(most, p.Hours)
	}
	return most, many <= openings
}

// hoursByCount returns the same for any number of panels: for each hour, how many turns are still pressed then at least.
func (x task) hoursByCount(openings int) int64 {
	hours := 0
	for heat := range api.MaxPressHeat + 1 {
		for hour := range int64(api.MaxPressHours) {
			many := 0
			for _, p := range x.panels {
				if p.Heat == heat && p.Hours > hour {
					many++
				}
			}
			hours += (many + openings - 1) / openings
		}
	}
	return int64(hours)
}

// heats returns the heats that panels want, increasing.
func (x task) heats() []int {
	var out []int
	for _, p := range x.panels {
		out = append(out, p.Heat)
	}
	slices.Sort(out)
	return slices.Compact(out)
}

// wayByHand returns the shortest way: what heats have been reached is always without a gap, and grows at one of both ends.
func (x task) wayByHand() int64 {
	heats := x.heats()
	var from func(at, low, high int) int // heats from low on, below high, have been reached
	from = func(at, low, high int) int {
		if low == 0 && high == len(heats) {
			return 0
		}
		best := 1 << 30
		if low > 0 {
			best = size(heats[low-1]-at) + from(heats[low-1], low-1, high)
		}
		if high < len(heats) {
			best = min(best, size(heats[high]-at)+from(heats[high], low, high+1))
		}
		return best
	}
	best := from(x.b.Heat, 0, 0)
	for start := range heats {
		best = min(best, size(heats[start]-x.b.Heat)+from(heats[start], start, start+1))
	}
	if len(heats) == 0 {
		return 0
	}
	return int64(best)
}

// allTurns returns all turns of the panels, whatever they are pressed for.
func (x task) allTurns() [][][]int {
	var out [][][]int
	var grow func(turns [][]int, left int)
	grow = func(turns [][]int, left int) {
		if left == 0 {
			out = append(out, slices.Clone(turns))
		}
		for turn := left; turn > 0; turn = (turn - 1) & left {
			if _, ok := x.longestOf(turn, len(wholeByHand(x.b))); ok {
				grow(append(slices.Clone(turns), members(turn)), left&^turn)
			}
		}
	}
	grow(nil, 1<<len(x.panels)-1)
	return out
}

// members returns the numbers of the bits that are set.
func members(set int) []int {
	var out []int
	for n := 0; set>>n > 0; n++ {
		if set>>n&1 == 1 {
			out = append(out, n)
		}
	}
	return out
}

// isProof reports whether marks prove the sum of their Hours, and returns it.
func (x task) isProof(marks []int) (int64, bool) {
	sum := int64(0)
	for heat := range api.MaxPressHeat + 1 {
		var hours, all []int64 // of the marks, and of all panels that want it
		for panel, p := range x.panels {
			if p.Heat == heat {
				all = append(all, p.Hours)
			}
			if p.Heat == heat && slices.Contains(marks, panel) {
				hours = append(hours, p.Hours)
			}
		}
		slices.Sort(hours)
		slices.Reverse(hours)
		for k, n := range hours {
			sum += n
			asLong := slices.DeleteFunc(slices.Clone(all), func(other int64) bool { return other < n })
			if len(asLong) < k*len(wholeByHand(x.b))+1 {
				return 0, false
			}
		}
	}
	return sum, true
}

// randomBed returns a bed, with a number of openings that leak.
func randomBed(r *rand.Rand) api.PressBed {
	openings := 1 + r.Intn(api.MaxPressOpenings)
	if r.Intn(2) == 0 {
		openings = 1 + r.Intn(4)
	}
	broken := r.Perm(openings)[:r.Intn(openings)]
	if r.Intn(3) == 0 {
		broken = nil
	}
	slices.Sort(broken)
	return bed(openings, r.Intn(api.MaxPressHeat+1), r.Int63n(api.MaxPressChange+1), broken...)
}

// randomPanel returns a panel that wants one of some heats.
func randomPanel(r *rand.Rand, heats []int, hours int64) api.PressPanel {
	return api.PressPanel{Heat: heats[r.Intn(len(heats))], Hours: 1 + r.Int63n(hours)}
}

// randomTask returns a bed with up to so many panels, which want a few heats or many.
func randomTask(r *rand.Rand, most int) task {
	x := task{b: randomBed(r)}
	heats := r.Perm(api.MaxPressHeat + 1)[:1+r.Intn(4)]
	if r.Intn(4) == 0 {
		heats = r.Perm(api.MaxPressHeat + 1)
	}
	hours := longs(1, 3, api.MaxPressHours)[r.Intn(3)]
	for range r.Intn(most + 1) {
		x.panels = append(x.panels, randomPanel(r, heats, hours))
	}
	return x
}

// randomTurns returns turns of the panels.
func (x task) randomTurns(r *rand.Rand) [][]int {
	var turns [][]int
	for _, panel := range r.Perm(len(x.panels)) {
		i := r.Intn(len(turns) + 1)
		if i == len(turns) {
			turns = append(turns, []int{panel})
		} else if grown := sorted(append(slices.Clone(turns[i]), panel)); x.faultOfTurn(grown, nil) == api.OK {
			turns[i] = grown
		} else {
			turns = slices.Insert(turns, i, []int{panel})
		}
	}
	return turns
}

func sorted(list []int) []int {
	slices.Sort(list)
	return list
}

// randomMarks returns some of the panels.
func (x task) randomMarks(r *rand.Rand) []int {
	return sorted(r.Perm(len(x.panels))[:r.Intn(len(x.panels)+1)])
}

// each calls f with tasks of up to so many panels.
func each(t *testing.T, times, most int, f func(r *rand.Rand, x task)) {
	t.Helper()
	r := rand.New(rand.NewSource(int64(times)))
	for i := range len(goodTasks) + times {
		x := randomTask(r, most)
		if i < len(goodTasks) {
			x = goodTasks[i].copied()
		}
		if len(x.panels) > most {
			continue
		}
		f(r, x)
		if t.Failed() {
			t.Fatal(x)
		}
	}
}

// copied returns a task that shares no memory with another one.
func (x task) copied() task {
	x.b.Broken, x.panels = slices.Clone(x.b.Broken), slices.Clone(x.panels)
	return x
}

// copiedTurns returns turns that share no memory with others.
func copiedTurns(turns [][]int) [][]int {
	out := slices.Clone(turns)
	for i, turn := range out {
		out[i] = slices.Clone(turn)
	}
	return out
}

// withOpenings returns a task with another number of openings, all of them whole.
func (x task) withOpenings(openings int) task {
	x.b = bed(openings, x.b.Heat, x.b.Change)
	return x
}

// told returns what a function tells of a valid task.
func told[T any](t *testing.T, f func(api.PressBed, []api.PressPanel) (T, api.Errno), x task) T {
	t.Helper()
	n, e := f(x.b, x.panels)
	if e != api.OK {
		t.Fatal(x, e)
	}
	return n
}

// toldOf returns what a function tells of a valid task and turns of it.
func toldOf[T any](t *testing.T, f func(api.PressBed, []api.PressPanel, [][]int) (T, api.Errno), x task, turns [][]int) T {
	t.Helper()
	n, e := f(x.b, x.panels, turns)
	if e != api.OK {
		t.Fatal(x, turns, e)
	}
	return n
}

func hours(t *testing.T, x task) int64 {
	t.Helper()
	return told(t, press.Hours, x)
}

func way(t *testing.T, x task) int64 {
	t.Helper()
	return told(t, press.Way, x)
}

// checked returns for how many hours valid turns are pressed, and their way.
func checked(t *testing.T, x task, turns [][]int) [2]int64 {
	t.Helper()
	hours, way, e := press.CheckTurns(x.b, x.panels, turns)
	if e != api.OK {
		t.Fatal(x, turns, e)
	}
	return [2]int64{hours, way}
}
