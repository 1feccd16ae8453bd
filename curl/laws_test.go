package curl_test

import (
	"math/rand"
	"slices"
	"testing"

	"crossband/api"
	"crossband/curl"
)

// TestEnds is P7.7.
func TestEnds(t *testing.T) {
	low, high, more := 0, 0, 0
	each(t, 300, api.MaxCurlSheets, func(r *rand.Rand, p api.CurlPanel) {
		few := least(t, p)
		if n := curlOf(t, p, told(t, curl.Order, p)); n != few {
			t.Error("order", n, few)
		}
		for range 5 {
			order := r.Perm(len(p.Sheets))
			most := curlOf(t, p, order)
			lo, hi := greatest(t, p, order, p.Damp.Lo), greatest(t, p, order, p.Damp.Hi)
			if most != max(lo, hi) {
				t.Error("ends", order, most, lo, hi)
			}
			if damp := p.Damp.Lo + r.Int63n(p.Damp.Hi-p.Damp.Lo+1); greatest(t, p, order, damp) > most {
				t.Error("greater between", order, damp)
			}
			switch {
			case lo > hi:
				low++
			case hi > lo:
				high++
			}
			if most < few {
				t.Error("less than least", order, most, few)
			}
			if most > few {
				more++
			}
		}
	})
	if low < 20 || high < 200 || more < 500 {
		t.Error("too few of a sort", low, high, more)
	}
}

// TestTurned is P7.8.
func TestTurned(t *testing.T) {
	all := allOrders()
	some := 0
	each(t, 100, api.MaxCurlSheets, func(r *rand.Rand, p api.CurlPanel) {
		for range 5 {
			order := r.Perm(len(p.Sheets))
			other := turned(order)
			if slices.Equal(order, other) {
				t.Error("its own other side", order)
			}
			if n, m := curlOf(t, p, order), curlOf(t, p, other); n != m {
				t.Error("curl", order, n, m)
			}
			for damp := p.Damp.Lo; damp <= p.Damp.Hi; damp++ {
				m, n := moments(t, p, order, damp), moments(t, p, other, damp)
				if m[0] != -n[0] || m[1] != -n[1] {
					t.Error("moments", order, damp, m, n)
				}
			}
		}
		flat := 0
		for _, order := range all[len(p.Sheets)] {
			if isFlat(t, p, order) {
				flat++
			}
		}
		if n := flats(t, p); n != flat || n%2 != 0 {
			t.Error("flats", n, flat)
		}
		if flat > 0 {
			some++
		}
	})
	if some < 20 {
		t.Error("too few that are flat", some)
	}
}

// evened returns a panel whose sheets are equal in layers that are as far under the middle as above it.
func evened(p api.CurlPanel, order []int) api.CurlPanel {
	out := copied(p)
	for layer, sheet := range order[:len(order)/2] {
		out.Sheets[order[len(order)-1-layer]] = p.Sheets[sheet]
	}
	return out
}

// TestEven is P7.9.
func TestEven(t *testing.T) {
	changed := 0
	each(t, 500, api.MaxCurlSheets, func(r *rand.Rand, p api.CurlPanel) {
		order := r.Perm(len(p.Sheets))
		if !isFlat(t, p, order) {
			changed++
		}
		even := evened(p, order)
		if !isFlat(t, even, order) || least(t, even) != 0 || fewest(t, even, order) != 0 {
			t.Error(order, even)
		}
	})
	if changed < 200 {
		t.Error("too few", changed)
	}
}

// mapped returns a panel with other sheets, and whether it is valid.
func mapped(p api.CurlPanel, f func(api.CurlSheet) api.CurlSheet) (api.CurlPanel, bool) {
	out := copied(p)
	for i, s := range out.Sheets {
		out.Sheets[i] = f(s)
	}
	return out, curl.CheckPanel(out) == api.OK
}

// TestAdded is P7.10 for sheets that pull more.
func TestAdded(t *testing.T) {
	many := 0
	each(t, 500, api.MaxCurlSheets, func(r *rand.Rand, p api.CurlPanel) {
		pull, more := r.Int63n(41)-20, r.Int63n(7)-3
		other, ok := mapped(p, func(s api.CurlSheet) api.CurlSheet { return sheet(s.Pull+pull, s.More+more) })
		if !ok {
			return
		}
		many++
		order, damp := r.Perm(len(p.Sheets)), p.Damp.Lo+r.Int63n(p.Damp.Hi-p.Damp.Lo+1)
		if m, n := moments(t, p, order, damp), moments(t, other, order, damp); m != n {
			t.Error("moments", pull, more, order, damp, m, n)
		}
		if n, m := curlOf(t, p, order), curlOf(t, other, order); n != m {
			t.Error("curl", pull, more, order, n, m)
		}
		if !slices.Equal(told(t, curl.Order, p), told(t, curl.Order, other)) || least(t, p) != least(t, other) || flats(t, p) != flats(t, other) {
			t.Error("orders", pull, more)
		}
	})
	if many < 100 {
		t.Error("too few", many)
	}
}

// TestScaled is P7.10 for sheets whose numbers are so many times as great.
func TestScaled(t *testing.T) {
	many := 0
	each(t, 500, api.MaxCurlSheets, func(r *rand.Rand, p api.CurlPanel) {
		times := r.Int63n(6)
		other, ok := mapped(p, func(s api.CurlSheet) api.CurlSheet { return sheet(s.Pull*times, s.More*times) })
		if !ok {
			return
		}
		many++
		order, damp := r.Perm(len(p.Sheets)), p.Damp.Lo+r.Int63n(p.Damp.Hi-p.Damp.Lo+1)
		if m, n := moments(t, p, order, damp), moments(t, other, order, damp); m[0]*times != n[0] || m[1]*times != n[1] {
			t.Error("moments", times, order, damp, m, n)
		}
		if n, m := curlOf(t, p, order), curlOf(t, other, order); n*times != m {
			t.Error("curl", times, order, n, m)
		}
		if n, m := least(t, p), least(t, other); n*times != m {
			t.Error("least", times, n, m)
		}
	})
	if many < 100 {
		t.Error("too few", many)
	}
}

// TestWider is P7.11 for wider bounds.
func TestWider(t *testing.T) {
	more := 0
	each(t, 300, api.MaxCurlSheets, func(r *rand.Rand, p api.CurlPanel) {
		wide, order := copied(p), r.Perm(len(p.Sheets))
		wide.Damp = to(r.Int63n(p.Damp.Lo+1), p.Damp.Hi+r.Int63n(api.MaxCurlDamp+1-p.Damp.Hi))
		n, m := curlOf(t, p, order), curlOf(t, wide, order)
		if m < n || least(t, wide) < least(t, p) || flats(t, wide) > flats(t, p) {
			t.Error(wide.Damp, order, n, m)
		}
		if m > n {
			more++
		}
	})
	if more < 100 {
		t.Error("too few", more)
	}
}

// TestCounted is P7.11 for damp that is counted from another number.
func TestCounted(t *testing.T) {
	many := 0
	each(t, 2000, api.MaxCurlSheets, func(r *rand.Rand, p api.CurlPanel) {
		from := r.Int63n(21) - 10
		other, _ := mapped(p, func(s api.CurlSheet) api.CurlSheet { return sheet(s.Pull+from*s.More, s.More) })
		other.Damp = to(p.Damp.Lo-from, p.Damp.Hi-from)
		if from == 0 || curl.CheckPanel(other) != api.OK {
			return
		}
		many++
		order := r.Perm(len(p.Sheets))
		if n, m := curlOf(t, p, order), curlOf(t, other, order); n != m {
			t.Error(from, order, n, m)
		}
		if n, m := least(t, p), least(t, other); n != m {
			t.Error("least", from, n, m)
		}
	})
	if many < 200 {
		t.Error("too few", many)
	}
}

// TestCured is P7.12.
func TestCured(t *testing.T) {
	sorts := map[int]int{}
	each(t, 500, api.MaxCurlSheets, func(r *rand.Rand, p api.CurlPanel) {
		order := r.Perm(len(p.Sheets))
		n := fewest(t, p, order)
		sorts[n]++
		if isFlat(t, p, order) != (n == 0) {
			t.Error("flat", order, n)
		}
		if n > len(order)/2 {
			t.Error("too many", order, n)
		}
		var one []api.CurlChange // one of each two sheets as far from the middle, if they are not equal
		for layer := range len(order) / 2 {
			from, at := order[layer], order[len(order)-1-layer]
			if r.Intn(2) == 0 {
				from, at = at, from
			}
			if p.Sheets[from] != p.Sheets[at] {
				one = append(one, api.CurlChange{Sheet: at, To: p.Sheets[from]})
			}
		}
		slices.SortFunc(one, func(a, b api.CurlChange) int { return a.Sheet - b.Sheet })
		if m, e := curl.CheckCure(p, order, one); m != len(one) || e != api.OK || m < n {
			t.Error("pairs", order, one, m, e, n)
		}
		for range 5 { // no changes that cure are fewer
			list := randomChanges(r, p)
			if m, e := curl.CheckCure(p, order, list); e == api.OK && m < n {
				t.Error("fewer", order, list, m, n)
			}
		}
	})
	for n := range 4 {
		if sorts[n] < 20 {
			t.Error("too few of a sort", sorts)
		}
	}
}

// TestBlamed is P7.13.
func TestBlamed(t *testing.T) {
	all := allOrders()
	flat, none := 0, 0
	each(t, 150, api.MaxCurlSheets, func(r *rand.Rand, p api.CurlPanel) {
		list := blame(t, p)
		if flats(t, p) > 0 {
			flat++
			if !slices.Equal(list, inOrder(len(p.Sheets))) {
				t.Error("flat", list)
			}
		}
		orders := all[len(p.Sheets)]
		if len(list) == 0 {
			none++
			for range 40 {
				order := orders[r.Intn(len(orders))]
				if n := fewest(t, p, order); n < 2 {
					t.Error("one is enough", order, n)
				}
			}
		}
		for range 10 { // what cures alone is to blame
			order := orders[r.Intn(len(orders))]
			if cure := toldOf(t, curl.Cure, p, order); len(cure) == 1 && !slices.Contains(list, cure[0].Sheet) {
				t.Error("not to blame", order, cure, list)
			}
		}
	})
	if flat < 40 || none < 5 {
		t.Error("too few of a sort", flat, none)
	}
}

// TestThree is P7.14.
func TestThree(t *testing.T) {
	equal, alike, bent := 0, 0, 0
	each(t, 2000, 3, func(r *rand.Rand, p api.CurlPanel) {
		if list := blame(t, p); !slices.Equal(list, inOrder(3)) {
			t.Error("blame", list)
		}
		for _, order := range permutations(3) {
			under, over := p.Sheets[order[0]], p.Sheets[order[2]]
			want := false
			switch {
			case under == over:
				equal++
				want = true
			case p.Damp.Lo == p.Damp.Hi && pullByHand(under, p.Damp.Lo) == pullByHand(over, p.Damp.Lo):
				alike++
				want = true
			default:
				bent++
			}
			if isFlat(t, p, order) != want {
				t.Error("flat", order, want)
			}
		}
	})
	if equal < 200 || alike < 20 || bent < 200 {
		t.Error("too few of a sort", equal, alike, bent)
	}
}
