package glue_test

import (
	"math/rand"
	"slices"
	"testing"

	"crossband/api"
	"crossband/glue"
)

// randomNumbers returns numbers for so many panels: a row, or a plan, at random.
func randomNumbers(r *rand.Rand, panels int, row bool) []int {
	var out []int
	used := 0
	for range panels {
		least := 0
		if row {
			least = max(0, used-1)
		}
		batch := used
		if r.Intn(3) > 0 {
			batch = least + r.Intn(used+1-least)
		}
		out = append(out, batch)
		used = max(used, batch+1)
	}
	return out
}

// randomMarks returns a strictly increasing list of panels.
func randomMarks(r *rand.Rand, panels int) []int {
	var out []int
	for panel := range panels {
		if r.Intn(2) == 0 {
			out = append(out, panel)
		}
	}
	return out
}

// TestProved is P6.9.
func TestProved(t *testing.T) {
	pairs := 0
	each(t, 500, api.MaxGluePanels, func(r *rand.Rand, x task) {
		best := rows(t, x)
		if marks := told(t, glue.Marks, x); len(marks) != best {
			t.Error("marks", marks, best)
		}
		var good, proofs []int
		for range 30 {
			if n, e := checkRow(x, randomNumbers(r, len(x.panels), true)); e == api.OK {
				good = append(good, n)
			}
			if n, e := checkMarks(x, randomMarks(r, len(x.panels))); e == api.OK {
				proofs = append(proofs, n)
			}
		}
		for _, n := range good {
			for _, proved := range proofs {
				if pairs++; n < proved || n < best || best < proved {
					t.Error("fewer", n, best, proved)
				}
			}
		}
	})
	if pairs < 1000 {
		t.Error("too few", pairs)
	}
}

// TestAnyOrder is P6.10.
func TestAnyOrder(t *testing.T) {
	good, fewer, byBound, byApart := 0, 0, 0, 0
	each(t, 500, api.MaxGluePanels, func(r *rand.Rand, x task) {
		best, inOrder, sums, single := plans(t, x), rows(t, x), bound(t, x), len(apart(t, x))
		if best > inOrder || best < sums || best < single {
			t.Error(best, inOrder, sums, single)
		}
		if best < inOrder {
			fewer++
		}
		if best == sums && sums > single {
			byBound++
		}
		if best == single && single > sums {
			byApart++
		}
		if n, e := checkPlan(x, row(t, x)); n != inOrder || e != api.OK {
			t.Error("a row is no plan", n, e)
		}
		for range 30 {
			numbers := randomNumbers(r, len(x.panels), false)
			if n, e := checkPlan(x, numbers); e == api.OK {
				if good++; n < best {
					t.Error("fewer", numbers, n, best)
				}
			}
		}
	})
	if good < 500 || fewer < 20 || byBound < 20 || byApart < 5 {
		t.Error("too few of a sort", good, fewer, byBound, byApart)
	}
}

// inTruth returns a task in a truth that the bounds allow.
func inTruth(r *rand.Rand, x task) task {
	pick := func(w api.Range) api.Range {
		n := w.Lo + r.Int63n(w.Hi-w.Lo+1)
		return to(n, n)
	}
	y := task{api.GlueDay{Works: pick(x.d.Works), Pot: x.d.Pot}, nil, r.Intn(2) == 0}
	for _, p := range x.panels {
		y.panels = append(y.panels, api.GluePanel{Lay: pick(p.Lay), Spread: p.Spread})
	}
	return y
}

// TestSurely is P6.11.
func TestSurely(t *testing.T) {
	good, only := 0, 0
	each(t, 500, api.MaxGluePanels, func(r *rand.Rand, x task) {
		sure, not := task{x.d, x.panels, true}, task{x.d, x.panels, false}
		if sure.allFault() == api.OK {
			if n, m := rows(t, sure), rows(t, not); n < m {
				t.Error("row", n, m)
			}
			if n, m := plans(t, sure), plans(t, not); n < m {
				t.Error("plan", n, m)
			}
		}
		for i := range 20 {
			row := i%2 == 0
			check := checkPlan
			if row {
				check = checkRow
			}
			numbers := randomNumbers(r, len(x.panels), row)
			n, e := check(sure, numbers)
			if e != api.OK {
				if _, e := check(not, numbers); e == api.OK {
					only++
				}
				continue
			}
			good++
			for _, y := range []task{not, inTruth(r, x), inTruth(r, x)} {
				if m, e := check(y, numbers); m != n || e != api.OK {
					t.Error(y, numbers, m, e)
				}
			}
		}
	})
	if good < 500 || only < 100 {
		t.Error("too few of a sort", good, only)
	}
}

// copied returns a task that shares no memory with another one.
func copied(x task) task { return task{x.d, slices.Clone(x.panels), x.sure} }

// easier returns a task in which a batch works longer, a pot holds more, or a panel takes less time.
func easier(r *rand.Rand, x task) task {
	y := copied(x)
	switch sort := r.Intn(3); {
	case sort == 0:
		y.d.Works.Hi += r.Int63n(api.MaxGlueMinutes + 1 - y.d.Works.Hi)
		y.d.Works.Lo += r.Int63n(y.d.Works.Hi + 1 - y.d.Works.Lo)
	case sort == 1:
		y.d.Pot += r.Int63n(api.MaxGluePot + 1 - y.d.Pot)
	case len(y.panels) > 0:
		lay := &y.panels[r.Intn(len(y.panels))].Lay
		lay.Lo -= r.Int63n(lay.Lo)
		lay.Hi -= r.Int63n(lay.Hi + 1 - lay.Lo)
	}
	return y
}

// TestWarmer is P6.12.
func TestWarmer(t *testing.T) {
	fewer, scaled := 0, 0
	each(t, 500, api.MaxGluePanels, func(r *rand.Rand, x task) {
		inOrder, best := rows(t, x), plans(t, x)
		for range 6 {
			y := easier(r, x)
			n, m := rows(t, y), plans(t, y)
			if n > inOrder || m > best {
				t.Error(y, n, inOrder, m, best)
			}
			if n < inOrder && m < best {
				fewer++
			}
		}
		y, times := copied(x), 2+r.Int63n(4)
		y.d.Works = to(y.d.Works.Lo*times, y.d.Works.Hi*times)
		for i, p := range y.panels {
			y.panels[i].Lay = to(p.Lay.Lo*times, p.Lay.Hi*times)
		}
		if glue.CheckDay(y.d) != api.OK || glue.CheckPanels(y.panels) != api.OK {
			return
		}
		scaled++
		if !slices.Equal(row(t, x), row(t, y)) || !slices.Equal(plan(t, x), plan(t, y)) {
			t.Error(y, times)
		}
	})
	if fewer < 50 || scaled < 100 {
		t.Error("too few of a sort", fewer, scaled)
	}
}

// TestTurned is P6.13.
func TestTurned(t *testing.T) {
	others := 0
	each(t, 500, api.MaxGluePanels, func(r *rand.Rand, x task) {
		turned := copied(x)
		slices.Reverse(turned.panels)
		if n, m := rows(t, x), rows(t, turned); n != m {
			t.Error("turned", n, m)
		}
		if n, m := len(told(t, glue.Marks, x)), len(told(t, glue.Marks, turned)); n != m {
			t.Error("marks", n, m)
		}
		mixed := copied(x)
		r.Shuffle(len(mixed.panels), func(i, j int) {
			mixed.panels[i], mixed.panels[j] = mixed.panels[j], mixed.panels[i]
		})
		for _, y := range []task{turned, mixed} {
			if n, m := plans(t, x), plans(t, y); n != m {
				t.Error("plan", y, n, m)
			}
			if n, m := bound(t, x), bound(t, y); n != m {
				t.Error("bound", y, n, m)
			}
			if n, m := len(apart(t, x)), len(apart(t, y)); n != m {
				t.Error("apart", y, n, m)
			}
		}
		if rows(t, mixed) != rows(t, x) {
			others++
		}
	})
	if others < 20 {
		t.Error("too few that are laid in another order", others)
	}
}

// TestMore is P6.14 for one more panel.
func TestMore(t *testing.T) {
	sorts := map[int]int{}
	each(t, 500, api.MaxGluePanels, func(r *rand.Rand, x task) {
		if len(x.panels) == api.MaxGluePanels {
			return
		}
		y := copied(x)
		y.panels = append(y.panels, api.GluePanel{Lay: randomTo(r, x.d.Works.Lo), Spread: 1 + r.Int63n(x.d.Pot)})
		inOrder, best := rows(t, y)-rows(t, x), plans(t, y)-plans(t, x)
		if inOrder < 0 || inOrder > 1 || best < 0 || best > 1 {
			t.Error(y, inOrder, best)
		}
		sorts[inOrder+2*best]++
	})
	for sort := range 4 {
		if sorts[sort] < 3 {
			t.Error("too few of a sort", sorts)
		}
	}
}

// TestCut is P6.14 for a row that is cut into two.
func TestCut(t *testing.T) {
	same, more := 0, 0
	each(t, 500, api.MaxGluePanels, func(_ *rand.Rand, x task) {
		all := rows(t, x)
		for at := range len(x.panels) + 1 {
			both := rows(t, task{x.d, x.panels[:at], x.sure}) + rows(t, task{x.d, x.panels[at:], x.sure})
			switch both {
			case all:
				same++
			case all + 1:
				more++
			default:
				t.Error(at, both, all)
			}
		}
	})
	if same < 200 || more < 200 {
		t.Error("too few of a sort", same, more)
	}
}

// TestSpared is P6.15.
func TestSpared(t *testing.T) {
	good := 0
	each(t, 500, api.MaxGluePanels, func(r *rand.Rand, x task) {
		if len(x.panels) == 0 {
			return
		}
		for _, numbers := range [][]int{plan(t, x), row(t, x), randomNumbers(r, len(x.panels), false)} {
			n, e := checkPlan(x, numbers)
			if e != api.OK {
				continue
			}
			good++
			time, spread, e := glue.Spares(x.d, x.panels, x.sure, numbers)
			if e != api.OK || time < 0 || spread < 0 {
				t.Fatal(x, numbers, time, spread, e)
			}
			for less := range int64(2) {
				want, wantTime, wantGlue := n, api.OK, api.OK
				if less == 1 {
					want, wantTime, wantGlue = 0, api.ErrGlue, api.ErrFull
				}
				y, left := copied(x), x.works()-time-less
				y.d.Works = to(left, left)
				if m, e := checkPlan(y, numbers); left > 0 && (m != want || e != wantTime) {
					t.Error("minutes", y, numbers, m, e)
				}
				z := copied(x)
				z.d.Pot -= spread + less
				if m, e := checkPlan(z, numbers); z.d.Pot > 0 && (m != want || e != wantGlue) {
					t.Error("glue", z, numbers, m, e)
				}
			}
		}
	})
	if good < 1000 {
		t.Error("too few", good)
	}
}
