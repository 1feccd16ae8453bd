package glue_test

import (
	"math/rand"
	"slices"
	"testing"

	"crossband/api"
	"crossband/glue"
)

func indexes(x ...int) []int    { return x }
func longs(x ...int64) []int64  { return x }
func to(lo, hi int64) api.Range { return api.Range{Lo: lo, Hi: hi} }

func day(least, most, pot int64) api.GlueDay { return api.GlueDay{Works: to(least, most), Pot: pot} }

// panels returns a panel for each three numbers.
func panels(x ...int64) []api.GluePanel {
	var out []api.GluePanel
	for i := 0; i < len(x); i += 3 {
		out = append(out, api.GluePanel{Lay: to(x[i], x[i+1]), Spread: x[i+2]})
	}
	return out
}

// exactly returns a panel for each two numbers, how many minutes it takes and how much glue.
func exactly(x ...int64) []api.GluePanel {
	var out []api.GluePanel
	for i := 0; i < len(x); i += 2 {
		out = append(out, panels(x[i], x[i], x[i+1])...)
	}
	return out
}

// dayD and panelsP are D and P of the chapter's examples.
func dayD() api.GlueDay        { return day(30, 40, 10) }
func panelsP() []api.GluePanel { return panels(10, 12, 3, 8, 10, 3, 15, 20, 4, 5, 6, 2, 9, 11, 3) }

// task is what all functions are asked about.
type task struct {
	d      api.GlueDay
	panels []api.GluePanel
	sure   bool
}

// surely and maybe are D and P, asked surely and not.
func surely() task { return task{dayD(), panelsP(), true} }
func maybe() task  { return task{dayD(), panelsP(), false} }

// goodTasks are tasks whose panels can all be laid, as it is asked.
var goodTasks = []task{
	surely(),
	maybe(),
	{dayD(), nil, true},
	{day(1, 1, 1), nil, false},
	{day(1, 1, 1), exactly(1, 1), true},
	{day(1, 1, 1), slices.Repeat(exactly(1, 1), 10), true},
	{day(240, 240, 200), slices.Repeat(exactly(240, 200), 10), true},
	{day(240, 240, 200), slices.Repeat(exactly(24, 20), 10), true},
	{day(240, 240, 200), slices.Repeat(exactly(48, 1), 10), true},
	{day(240, 240, 200), slices.Repeat(exactly(1, 100), 10), true},
	{day(1, 240, 200), slices.Repeat(panels(1, 240, 1), 10), false},
	{day(12, 12, 99), exactly(7, 1, 5, 1, 5, 1, 7, 1, 2, 1, 2, 1), true},
	{day(10, 10, 9), exactly(6, 1, 6, 1, 4, 1, 4, 1), true},
	{day(10, 10, 9), exactly(4, 1, 4, 1, 6, 1, 6, 1), true},
	{day(10, 10, 9), exactly(3, 1, 6, 1, 7, 1, 4, 1), true},
	{day(99, 99, 10), exactly(1, 3, 1, 6, 1, 7, 1, 4), false},
	{day(10, 10, 10), exactly(6, 1, 1, 6, 1, 4, 4, 1), true},
	{day(6, 9, 9), panels(3, 4, 1, 3, 4, 1, 3, 4, 1), true},
	{day(6, 9, 9), panels(3, 4, 1, 3, 4, 1, 3, 4, 1), false},
	{day(20, 20, 20), exactly(9, 1, 8, 1, 7, 1, 6, 1, 5, 1, 4, 1, 3, 1, 2, 1, 11, 1, 5, 1), true},
	{day(20, 20, 20), exactly(9, 9, 8, 2, 7, 3, 6, 6, 5, 5, 4, 14, 3, 7, 2, 8, 11, 1, 5, 5), true},
}

// time returns the time of a panel.
func (x task) time(panel int) int64 {
	if x.sure {
		return x.panels[panel].Lay.Hi
	}
	return x.panels[panel].Lay.Lo
}

// works returns how long a batch works.
func (x task) works() int64 {
	if x.sure {
		return x.d.Works.Lo
	}
	return x.d.Works.Hi
}

// sums returns what panels take together.
func (x task) sums(batch ...int) (time, spread int64) {
	for _, panel := range batch {
		time += x.time(panel)
		spread += x.panels[panel].Spread
	}
	return time, spread
}

// fault returns the error of a batch.
func (x task) fault(batch ...int) api.Errno {
	time, spread := x.sums(batch...)
	if time > x.works() {
		return api.ErrGlue
	}
	if spread > x.d.Pot {
		return api.ErrFull
	}
	return api.OK
}

// allFault returns the error of the first panel that has one alone.
func (x task) allFault() api.Errno {
	for panel := range x.panels {
		if e := x.fault(panel); e != api.OK {
			return e
		}
	}
	return api.OK
}

// many returns how many batches numbers have, from 0 on without a gap.
func many(numbers []int) int {
	n := 0
	for slices.Contains(numbers, n) {
		n++
	}
	return n
}

// inBatch returns the panels of a batch.
func inBatch(numbers []int, batch int) []int {
	var out []int
	for panel, n := range numbers {
		if n == batch {
			out = append(out, panel)
		}
	}
	return out
}

// numbersFault returns the error of the first batch that has one.
func (x task) numbersFault(numbers []int) api.Errno {
	for batch := range many(numbers) {
		if e := x.fault(inBatch(numbers, batch)...); e != api.OK {
			return e
		}
	}
	return api.OK
}

// isRow reports whether numbers are a row, by each number and the one before it.
func isRow(numbers []int) bool {
	for i, n := range numbers {
		if i == 0 && n != 0 || i > 0 && n != numbers[i-1] && n != numbers[i-1]+1 {
			return false
		}
	}
	return true
}

// isPlan reports whether numbers are a plan, by each number and all before it.
func isPlan(numbers []int) bool {
	for i, n := range numbers {
		if n < 0 || n > 0 && !slices.Contains(numbers[:i], n-1) {
			return false
		}
	}
	return true
}

// lists returns all lists of so many numbers from lo to hi, in lexicographic order, that begin right.
func lists(many, lo, hi int, right func([]int) bool) [][]int {
	all := [][]int{nil}
	for range many {
		var longer [][]int
		for _, list := range all {
			for n := lo; n <= hi; n++ {
				if next := append(slices.Clone(list), n); right(next) {
					longer = append(longer, next)
				}
			}
		}
		all = longer
	}
	return all
}

// anyList is right for all lists.
func anyList([]int) bool { return true }

// best returns the first of some lists of numbers, of the good ones with the fewest batches, and whether there is one.
func (x task) best(all [][]int) ([]int, bool) {
	var first []int
	found := false
	for _, list := range all {
		if found && many(list) >= many(first) || x.numbersFault(list) != api.OK {
			continue
		}
		first, found = list, true
	}
	return first, found
}

// subsets returns the strictly increasing lists of numbers below many, in lexicographic order.
func subsets(many int) [][]int {
	out := [][]int{nil}
	for mask := 1; mask < 1<<many; mask++ {
		var list []int
		for n := range many {
			if mask>>n&1 == 1 {
				list = append(list, n)
			}
		}
		out = append(out, list)
	}
	slices.SortFunc(out, slices.Compare[[]int])
	return out
}

// randomTo returns a valid range up to a number.
func randomTo(r *rand.Rand, most int64) api.Range {
	hi := 1 + r.Int63n(most)
	return to(max(1, hi-r.Int63n(1+most/3)), hi)
}

// randomTask returns a task of up to so many panels, of about so many to a batch; not all of them can surely be laid, if some need not.
func randomTask(r *rand.Rand, panels int, all bool) task {
	works, pot := []int64{4, 12, 60, api.MaxGlueMinutes}[r.Intn(4)], []int64{4, 12, 60, api.MaxGluePot}[r.Intn(4)]
	x := task{api.GlueDay{Works: randomTo(r, works), Pot: 1 + r.Int63n(pot)}, nil, r.Intn(2) == 0}
	longest, largest := x.d.Works.Lo, x.d.Pot
	if !all {
		longest, largest = min(api.MaxGlueMinutes, longest+3), min(api.MaxGluePot, largest+1)
	}
	part := 1 + r.Int63n(4)
	for range r.Intn(panels + 1) {
		lay, spread := longest, largest
		if r.Intn(8) > 0 {
			lay, spread = max(1, lay/part), max(1, spread/part)
		}
		x.panels = append(x.panels, api.GluePanel{Lay: randomTo(r, lay), Spread: 1 + r.Int63n(spread)})
	}
	return x
}

// each calls f with tasks of up to so many panels, all of which can be laid, as it is asked; but for a few of goodTasks they can surely be laid.
func each(t *testing.T, times, panels int, f func(r *rand.Rand, x task)) {
	t.Helper()
	r := rand.New(rand.NewSource(int64(times)))
	for i := range len(goodTasks) + times {
		x := randomTask(r, panels, true)
		if i < len(goodTasks) {
			x = goodTasks[i]
		}
		if len(x.panels) > panels {
			continue
		}
		f(r, x)
		if t.Failed() {
			t.Fatal(x)
		}
	}
}

// told returns what a function tells of a task that has no error.
func told[T any](t *testing.T, f func(api.GlueDay, []api.GluePanel, bool) (T, api.Errno), x task) T {
	t.Helper()
	got, e := f(x.d, x.panels, x.sure)
	if e != api.OK {
		t.Fatal(x, e)
	}
	return got
}

func row(t *testing.T, x task) []int {
	t.Helper()
	return told(t, glue.Row, x)
}

func plan(t *testing.T, x task) []int {
	t.Helper()
	return told(t, glue.Plan, x)
}

func bound(t *testing.T, x task) int {
	t.Helper()
	return told(t, glue.Bound, x)
}

func apart(t *testing.T, x task) []int {
	t.Helper()
	return told(t, glue.Apart, x)
}

// rows and plans return how many batches the best row and the best plan have.
func rows(t *testing.T, x task) int {
	t.Helper()
	return many(row(t, x))
}

func plans(t *testing.T, x task) int {
	t.Helper()
	return many(plan(t, x))
}

func checkRow(x task, row []int) (int, api.Errno) {
	return glue.CheckRow(x.d, x.panels, x.sure, row)
}

func checkPlan(x task, plan []int) (int, api.Errno) {
	return glue.CheckPlan(x.d, x.panels, x.sure, plan)
}

func checkMarks(x task, marks []int) (int, api.Errno) {
	return glue.CheckMarks(x.d, x.panels, x.sure, marks)
}

func checkApart(x task, apart []int) api.Errno {
	return glue.CheckApart(x.d, x.panels, x.sure, apart)
}
