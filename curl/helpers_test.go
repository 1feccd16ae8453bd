package curl_test

import (
	"math/rand"
	"slices"
	"testing"

	"crossband/api"
	"crossband/curl"
)

func indexes(x ...int) []int    { return x }
func longs(x ...int64) []int64  { return x }
func to(lo, hi int64) api.Range { return api.Range{Lo: lo, Hi: hi} }

func sheet(pull, more int64) api.CurlSheet { return api.CurlSheet{Pull: pull, More: more} }

// panel returns a panel with a sheet for each two numbers.
func panel(lo, hi int64, x ...int64) api.CurlPanel {
	p := api.CurlPanel{Damp: to(lo, hi)}
	for i := 0; i < len(x); i += 2 {
		p.Sheets = append(p.Sheets, sheet(x[i], x[i+1]))
	}
	return p
}

// pulling returns a panel of sheets that pull as much at any damp.
func pulling(x ...int64) api.CurlPanel {
	p := panel(0, api.MaxCurlDamp)
	for _, pull := range x {
		p.Sheets = append(p.Sheets, sheet(pull, 0))
	}
	return p
}

// changes returns a change for each three numbers.
func changes(x ...int) []api.CurlChange {
	var out []api.CurlChange
	for i := 0; i < len(x); i += 3 {
		out = append(out, api.CurlChange{Sheet: x[i], To: sheet(int64(x[i+1]), int64(x[i+2]))})
	}
	return out
}

// panelA, panelC and panelE are A, C and E of the chapter's examples.
func panelA() api.CurlPanel { return panel(0, 4, 10, 1, 5, 0, 10, 1) }
func panelC() api.CurlPanel { return panel(0, 0, 3, 0, 5, 0, 8, 0) }
func panelE() api.CurlPanel { return panel(0, 9, 4, 0, 6, 0, 1, 0, 6, 0, 4, 0) }

var goodPanels = []api.CurlPanel{
	panelA(),
	panelC(),
	panelE(),
	panel(0, 0, 0, 0, 0, 0, 0, 0),
	panel(50, 50, 100, 10, 0, -10, 0, 0),
	panel(0, 50, 100, 10, 0, -10, 100, -10),
	panel(0, 9, 5, 0, 5, 1, 5, 2),
	panel(0, 0, 5, 0, 5, 1, 5, 2),
	panel(5, 5, 10, -1, 0, 1, 5, 0),
	panel(5, 6, 10, -1, 0, 1, 5, 0),
	pulling(0, 10, 20, 40, 80),
	pulling(0, 1, 2, 3, 4),
	pulling(100, 0, 100, 0, 100),
	panel(7, 30, 1, 1, 2, -1, 3, 0, 4, 1, 5, -1),
	panel(7, 7, 1, 1, 2, -1, 3, 0, 4, 1, 5, -1),
	pulling(1, 2, 3, 4, 3, 2, 1),
	pulling(0, 1, 3, 9, 27, 81, 100),
	pulling(7, 7, 7, 7, 7, 7, 7),
	panel(1, 2, 0, 0, 0, 0, 1, 0, 0, 0, 100, 0, 0, 0, 100, 1),
	panel(0, 50, 0, -10, 100, 10, 3, 1, 50, -7, 99, 2, 42, 5, 17, -3),
	panel(50, 50, 0, -10, 100, 10, 3, 1, 50, -7, 99, 2, 42, 5, 17, -3),
	panel(0, 0, 0, -10, 100, 10, 3, 1, 50, -7, 99, 2, 42, 5, 17, -3),
}

// pullByHand returns what a sheet pulls at a damp, step by step.
func pullByHand(s api.CurlSheet, damp int64) int64 {
	for range damp {
		s.Pull += s.More
	}
	return s.Pull
}

// momentsByHand returns both moments: each two layers as far from the middle have that of their difference.
func momentsByHand(p api.CurlPanel, order []int, damp int64) (along, across int64) {
	middle := len(order) / 2
	for far := 1; far <= middle; far++ {
		over, under := p.Sheets[order[middle+far]], p.Sheets[order[middle-far]]
		moment := int64(far) * (pullByHand(over, damp) - pullByHand(under, damp))
		if (middle+far)%2 == 0 {
			along += moment
		} else {
			across += moment
		}
	}
	return along, across
}

// curlByHand returns the curl of an order: each damp is looked at.
func curlByHand(p api.CurlPanel, order []int) int64 {
	most := int64(0)
	for damp := p.Damp.Lo; damp <= p.Damp.Hi; damp++ {
		along, across := momentsByHand(p, order, damp)
		most = max(most, along, -along, across, -across)
	}
	return most
}

// permutations returns the orders of so many sheets, in lexicographic order: the last sheet is put anywhere between the others.
func permutations(many int) [][]int {
	if many == 0 {
		return [][]int{nil}
	}
	var out [][]int
	for _, list := range permutations(many - 1) {
		for at := range many {
			out = append(out, slices.Insert(slices.Clone(list), at, many-1))
		}
	}
	slices.SortFunc(out, slices.Compare[[]int])
	return out
}

// allOrders returns the orders of each number of sheets.
func allOrders() map[int][][]int {
	all := map[int][][]int{}
	for many := 3; many <= api.MaxCurlSheets; many += 2 {
		all[many] = permutations(many)
	}
	return all
}

// values returns the numbers from lo to hi.
func values(lo, hi int64) []int64 {
	var out []int64
	for n := lo; n <= hi; n++ {
		out = append(out, n)
	}
	return out
}

// canOutweigh reports whether some of the numbers, one at each place, make a sum nothing.
func canOutweigh(sum int64, places, numbers []int64) bool {
	if len(places) == 0 {
		return sum == 0
	}
	for _, n := range numbers {
		if canOutweigh(sum+places[0]*n, places[1:], numbers) {
			return true
		}
	}
	return false
}

// canCure reports whether changes of the chosen sheets make all moments nothing of the layers from first on, every second one. If there is more than one damp, Pulls and Mores have to be even by themselves; otherwise what sheets pull then.
func canCure(p api.CurlPanel, order []int, first int, chosen func(sheet int) bool) bool {
	var places []int64
	pulls, mores := int64(0), int64(0)
	for layer := first; layer < len(order); layer += 2 {
		place := int64(layer) - int64(len(order)-1)/2
		if chosen(order[layer]) {
			places = append(places, place)
			continue
		}
		pulls += place * p.Sheets[order[layer]].Pull
		mores += place * p.Sheets[order[layer]].More
	}
	if p.Damp.Lo < p.Damp.Hi {
		return canOutweigh(pulls, places, values(0, 100)) && canOutweigh(mores, places, values(-10, 10))
	}
	return canOutweigh(pulls+mores*p.Damp.Lo, places, values(-10*p.Damp.Lo, 100+10*p.Damp.Lo))
}

// fewestFrom returns how few changes are needed in the layers from first on, every second one.
func fewestFrom(p api.CurlPanel, order []int, first int) int {
	for few := 0; ; few++ {
		for mask := range 1 << len(order) {
			many := 0
			for layer := range order {
				if mask>>layer&1 == 1 && layer%2 == first {
					many++
				} else if mask>>layer&1 == 1 {
					many = len(order) + 1 // it has others
				}
			}
			if many == few && canCure(p, order, first, func(sheet int) bool { return mask>>slices.Index(order, sheet)&1 == 1 }) {
				return few
			}
		}
	}
}

// fewestByHand returns how few changes cure an order.
func fewestByHand(p api.CurlPanel, order []int) int {
	return fewestFrom(p, order, 0) + fewestFrom(p, order, 1)
}

// blameByHand returns the sheets that are to blame.
func blameByHand(p api.CurlPanel, orders [][]int) []int {
	var out []int
	for sheet := range p.Sheets {
		only := func(other int) bool { return other == sheet }
		if slices.ContainsFunc(orders, func(order []int) bool { return canCure(p, order, 1, only) && canCure(p, order, 0, only) }) {
			out = append(out, sheet)
		}
	}
	return out
}

// randomDamp returns bounds of damp: one number, a few or many.
func randomDamp(r *rand.Rand) api.Range {
	lo := r.Int63n(longs(1, 10, api.MaxCurlDamp+1)[r.Intn(3)])
	most := longs(0, 3, api.MaxCurlDamp)[r.Intn(3)]
	return to(lo, min(api.MaxCurlDamp, lo+r.Int63n(most+1)))
}

// randomSheet returns a sheet up to some numbers.
func randomSheet(r *rand.Rand, pull, more int64) api.CurlSheet {
	return sheet(r.Int63n(pull+1), r.Int63n(2*more+1)-more)
}

// randomPanel returns a panel of so many sheets: any ones, ones with small numbers, or a few kinds of them.
func randomPanel(r *rand.Rand, many int) api.CurlPanel {
	p := api.CurlPanel{Damp: randomDamp(r)}
	pull, more := longs(2, 10, api.MaxCurlPull)[r.Intn(3)], longs(0, 1, api.MaxCurlMore)[r.Intn(3)]
	kinds := many
	if r.Intn(2) == 0 {
		kinds = 1 + r.Intn(many)
	}
	for range many {
		s := randomSheet(r, pull, more)
		if len(p.Sheets) >= kinds {
			s = p.Sheets[r.Intn(kinds)]
		}
		p.Sheets = append(p.Sheets, s)
	}
	return p
}

// each calls f with panels of up to so many sheets.
func each(t *testing.T, times, most int, f func(r *rand.Rand, p api.CurlPanel)) {
	t.Helper()
	r := rand.New(rand.NewSource(int64(times)))
	for i := range len(goodPanels) + times {
		p := randomPanel(r, 3+2*r.Intn((most-1)/2))
		if i < len(goodPanels) {
			p = goodPanels[i]
		}
		if len(p.Sheets) > most {
			continue
		}
		f(r, p)
		if t.Failed() {
			t.Fatal(p)
		}
	}
}

// copied returns a panel that shares no memory with another one.
func copied(p api.CurlPanel) api.CurlPanel {
	return api.CurlPanel{Sheets: slices.Clone(p.Sheets), Damp: p.Damp}
}

// changed returns a panel with changes.
func changed(p api.CurlPanel, list []api.CurlChange) api.CurlPanel {
	out := copied(p)
	for _, x := range list {
		out.Sheets[x.Sheet] = x.To
	}
	return out
}

// randomChanges returns changes of some sheets, to ones of the panel or to others.
func randomChanges(r *rand.Rand, p api.CurlPanel) []api.CurlChange {
	var out []api.CurlChange
	for i := range p.Sheets {
		switch r.Intn(6) {
		case 0:
			out = append(out, api.CurlChange{Sheet: i, To: randomSheet(r, api.MaxCurlPull, api.MaxCurlMore)})
		case 1, 2:
			out = append(out, api.CurlChange{Sheet: i, To: p.Sheets[r.Intn(len(p.Sheets))]})
		}
	}
	return out
}

// told returns what a function tells of a valid panel.
func told[T any](t *testing.T, f func(api.CurlPanel) (T, api.Errno), p api.CurlPanel) T {
	t.Helper()
	x, e := f(p)
	if e != api.OK {
		t.Fatal(p, e)
	}
	return x
}

// toldOf returns what a function tells of a valid panel and an order.
func toldOf[T any](t *testing.T, f func(api.CurlPanel, []int) (T, api.Errno), p api.CurlPanel, order []int) T {
	t.Helper()
	x, e := f(p, order)
	if e != api.OK {
		t.Fatal(p, order, e)
	}
	return x
}

func least(t *testing.T, p api.CurlPanel) int64 {
	t.Helper()
	return told(t, curl.Least, p)
}

func flats(t *testing.T, p api.CurlPanel) int {
	t.Helper()
	return told(t, curl.Flats, p)
}

func curlOf(t *testing.T, p api.CurlPanel, order []int) int64 {
	t.Helper()
	return toldOf(t, curl.Curl, p, order)
}

func fewest(t *testing.T, p api.CurlPanel, order []int) int {
	t.Helper()
	return toldOf(t, curl.Fewest, p, order)
}

func blame(t *testing.T, p api.CurlPanel) []int {
	t.Helper()
	return told(t, curl.Blame, p)
}

// moments returns both moments of a valid panel at a damp within its bounds.
func moments(t *testing.T, p api.CurlPanel, order []int, damp int64) [2]int64 {
	t.Helper()
	along, across, e := curl.Moments(p, order, damp)
	if e != api.OK {
		t.Fatal(p, order, damp, e)
	}
	return [2]int64{along, across}
}

// greatest returns the greatest moment at a damp, without its sign.
func greatest(t *testing.T, p api.CurlPanel, order []int, damp int64) int64 {
	t.Helper()
	m := moments(t, p, order, damp)
	return max(m[0], -m[0], m[1], -m[1])
}

// isFlat reports whether a panel is flat by an order.
func isFlat(t *testing.T, p api.CurlPanel, order []int) bool {
	t.Helper()
	return curlOf(t, p, order) == 0
}

// inOrder returns the sheets from the first one to the last one.
func inOrder(many int) []int {
	var out []int
	for i := range many {
		out = append(out, i)
	}
	return out
}

// turned returns a list the other way round.
func turned(list []int) []int {
	out := slices.Clone(list)
	slices.Reverse(out)
	return out
}
