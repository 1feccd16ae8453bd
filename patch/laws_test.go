package patch_test

import (
	"math/rand"
	"testing"

	"crossband/api"
)

// TestMoreKnots is P4.11 for one more knot, where the sheet was clear.
func TestMoreKnots(t *testing.T) {
	same, more := 0, 0
	each(t, 300, func(_ *rand.Rand, s api.PatchSheet) {
		if len(knotsOf(s)) == api.MaxPatchKnots {
			return
		}
		few := fewest(t, s)
		for _, at := range cellsOf(s, '.') {
			switch n := fewest(t, withCell(s, at, 'o')); n {
			case few:
				same++
			case few + 1:
				more++
			default:
				t.Error(at, n, few)
			}
		}
	})
	if same < 100 || more < 100 {
		t.Error("too few of a sort", same, more)
	}
}

// TestMoreFigure is P4.11 for one more cell of figure, that is no knot.
func TestMoreFigure(t *testing.T) {
	same, more := 0, 0
	each(t, 300, func(_ *rand.Rand, s api.PatchSheet) {
		few := fewest(t, s)
		for _, at := range cellsOf(s, '.') {
			switch n := fewest(t, withCell(s, at, '#')); {
			case n < few:
				t.Error(at, n, few)
			case n == few:
				same++
			default:
				more++
			}
		}
	})
	if same < 100 || more < 100 {
		t.Error("too few of a sort", same, more)
	}
}

// TestMoreCells is P4.11 for a greater Most.
func TestMoreCells(t *testing.T) {
	same, fewer := 0, 0
	each(t, 150, func(_ *rand.Rand, s api.PatchSheet) {
		few := len(knotsOf(s))
		for most := 1; most <= api.MaxPatchCells; most++ {
			n := fewest(t, withMost(s, most))
			switch {
			case n > few, most == 1 && n != few:
				t.Error(most, n, few)
			case n == few:
				same++
			default:
				fewer++
			}
			few = n
		}
	})
	if same < 100 || fewer < 100 {
		t.Error("too few of a sort", same, fewer)
	}
}

// beside returns two sheets side by side, with a column of figure between them.
func beside(x, y api.PatchSheet) api.PatchSheet {
	out := api.PatchSheet{Most: x.Most}
	for i, row := range x.Rows {
		out.Rows = append(out.Rows, row+"#"+y.Rows[i])
	}
	return out
}

// TestBeside is P4.14.
func TestBeside(t *testing.T) {
	r := rand.New(rand.NewSource(14))
	for range 1000 {
		rows, columns := 1+r.Intn(6), 1+r.Intn(4)
		x, y := randomOfSize(r, rows, columns, 5), randomOfSize(r, rows, 1+r.Intn(5-columns), 5)
		y.Most = x.Most
		both := beside(x, y)
		if got, want := fewest(t, both), fewest(t, x)+fewest(t, y); got != want {
			t.Fatal("fewest", both, got, want)
		}
		if got, want := cellsFor(t, both), cellsFor(t, x)+cellsFor(t, y); got != want {
			t.Fatal("cells", both, got, want)
		}
		if got, want := len(alone(t, both)), len(alone(t, x))+len(alone(t, y)); got != want {
			t.Fatal("alone", both, got, want)
		}
	}
}
