package grade_test

import (
	"math/rand"
	"slices"
	"testing"

	"crossband/api"
	"crossband/grade"
)

// isShort reports whether some grade is short.
func isShort(t *testing.T, s api.GradeShop) bool {
	t.Helper()
	_, e := grade.Short(s)
	if e != api.OK && e != api.ErrNone {
		t.Fatal(s, e)
	}
	return e == api.OK
}

// TestEither is P9.9.
func TestEither(t *testing.T) {
	short, not := 0, 0
	either := func(s api.GradeShop, filled bool) {
		if isShort(t, s) == filled {
			t.Error("both, or none of both", filled)
		}
		positive := false
		for g := range s.Stock {
			n, _ := grade.CheckShort(s, g)
			positive = positive || n > 0
		}
		if positive == filled {
			t.Error("above 0", filled)
		}
		if filled {
			not++
		} else {
			short++
		}
	}
	each(t, 2000, few, small, func(_ *rand.Rand, s api.GradeShop) {
		either(s, len(allFills(s)) > 0)
	})
	each(t, 2000, full, most, func(_ *rand.Rand, s api.GradeShop) {
		fill, e := grade.Fill(s)
		if _, f := grade.CheckFill(s, fill); (e == api.OK) != (f == api.OK) && len(s.Orders) > 0 {
			t.Error("fill", fill, e, f)
		}
		either(s, e == api.OK)
	})
	if short < 500 || not < 500 {
		t.Error("too few of a sort", short, not)
	}
}

// checked returns the cost of a right fill.
func checked(t *testing.T, s api.GradeShop, fill [][]int64) int64 {
	t.Helper()
	n, e := grade.CheckFill(s, fill)
	if e != api.OK {
		t.Fatal(s, fill, e)
	}
	return n
}

// proved returns what a proof proves.
func proved(t *testing.T, s api.GradeShop, proof []int64) int64 {
	t.Helper()
	n, e := grade.CheckProof(s, proof)
	if e != api.OK {
		t.Fatal(s, proof, e)
	}
	return n
}

// TestProved is P9.10.
func TestProved(t *testing.T) {
	equal := 0
	eachFilled(t, 2000, full, most, func(r *rand.Rand, s api.GradeShop) {
		best := told(t, grade.Proof, s)
		if n := proved(t, s, best); n != least(t, s) {
			t.Error("the best one", best, n)
		}
		for range 10 {
			fill, proof := randomFill(r, s), randomProof(r, s)
			if r.Intn(2) == 0 { // one that is nearly the best one
				proof = slices.Clone(best)
				g := r.Intn(len(proof))
				proof[g] = min(api.MaxGradePrice, max(0, proof[g]+r.Int63n(5)-2))
			}
			m, n := checked(t, s, fill), proved(t, s, proof)
			if m < n || checked(t, s, told(t, grade.Fill, s)) < n {
				t.Error(fill, m, proof, n)
			}
			if m == n && m > 0 {
				equal++
			}
		}
	})
	if equal < 500 {
		t.Error("too few", equal)
	}
}

// TestSpentFirst is P9.11 for sums up to each grade.
func TestSpentFirst(t *testing.T) {
	fewer, same := 0, 0
	eachFilled(t, 2000, full, most, func(r *rand.Rand, s api.GradeShop) {
		list := spent(t, s)
		for range 10 {
			other := spentOf(s, randomFill(r, s))
			m, n := int64(0), int64(0)
			for g := range list {
				m += list[g]
				n += other[g]
				if m > n {
					t.Error(g, list, other)
				}
				if m < n {
					fewer++
				}
			}
			if m != n {
				t.Error("all", list, other)
			}
			if slices.Equal(list, other) {
				same++
			}
		}
	})
	if fewer < 1000 || same < 1000 {
		t.Error("too few of a sort", fewer, same)
	}
}

// randomPrices returns prices that do not rise.
func randomPrices(r *rand.Rand, many int) []int64 {
	prices := randomNumbers(r, many, api.MaxGradePrice)
	slices.Sort(prices)
	slices.Reverse(prices)
	return prices
}

// TestAnyPrices is P9.11 for prices.
func TestAnyPrices(t *testing.T) {
	eachFilled(t, 2000, full, most, func(r *rand.Rand, s api.GradeShop) {
		list, other := spent(t, s), copied(s)
		for range 5 {
			other.Price = randomPrices(r, len(s.Price))
			n := costOf(other, list)
			if again := spent(t, other); !slices.Equal(again, list) || least(t, other) != n {
				t.Error(other.Price, list, again, n, least(t, other))
			}
			fill := randomFill(r, s)
			if m := checked(t, other, fill); m < n {
				t.Error(other.Price, fill, m, n)
			}
		}
	})
}

// TestWorths is P9.12.
func TestWorths(t *testing.T) {
	above, equal := 0, 0
	eachFilled(t, 3000, full, most, func(_ *rand.Rand, s api.GradeShop) {
		for g, price := range s.Price {
			n := worth(t, s, g)
			if n < 0 || n > s.Price[0] {
				t.Error(g, n)
			}
			if n > 0 && n == s.Price[0] {
				above++
			}
			for better := range g {
				m, by := worth(t, s, better), n-(s.Price[better]-price)
				if m < by {
					t.Error(better, m, g, n)
				}
				if m == by && m > 0 {
					equal++
				}
			}
		}
	})
	if above < 10 || equal < 500 {
		t.Error("too few of a sort", above, equal)
	}
}

// TestPrices is P9.13.
func TestPrices(t *testing.T) {
	greater, times := 0, 0
	eachFilled(t, 3000, full, most, func(r *rand.Rand, s api.GradeShop) {
		by, as, many := r.Int63n(30), 1+r.Int63n(8), int64(0)
		for _, o := range s.Orders {
			many += o.Many
		}
		n, more, scaled := least(t, s), copied(s), copied(s)
		for g := range s.Price {
			more.Price[g] += by
			scaled.Price[g] *= as
		}
		if grade.CheckShop(more) == api.OK {
			greater++
			if m := least(t, more); m != n+by*many {
				t.Error("greater", by, many, n, m)
			}
		}
		if grade.CheckShop(scaled) == api.OK {
			times++
			if m := least(t, scaled); m != n*as {
				t.Error("times", as, n, m)
			}
		}
	})
	if greater < 500 || times < 500 {
		t.Error("too few of a sort", greater, times)
	}
}

// together returns a shop with two orders of one grade put together, if there are such.
func together(s api.GradeShop) (api.GradeShop, bool) {
	for i, o := range s.Orders {
		for j, p := range s.Orders[:i] {
			if o.Grade == p.Grade && o.Many+p.Many <= most {
				one := copied(s)
				one.Orders[j].Many += o.Many
				one.Orders = slices.Delete(one.Orders, i, i+1)
				return one, true
			}
		}
	}
	return s, false
}

// TestOrders is P9.14 for orders that are put together, or come in another order.
func TestOrders(t *testing.T) {
	pairs := 0
	same := func(s, other api.GradeShop) {
		if m, n := spent(t, s), spent(t, other); !slices.Equal(m, n) || least(t, s) != least(t, other) {
			t.Error(other, m, n)
		}
		for g := range s.Stock {
			m, _ := grade.CheckShort(s, g)
			n, _ := grade.CheckShort(other, g)
			if m != n || worth(t, s, g) != worth(t, other, g) {
				t.Error(other, g, m, n)
			}
		}
	}
	eachFilled(t, 3000, full, most, func(r *rand.Rand, s api.GradeShop) {
		if one, ok := together(s); ok {
			pairs++
			same(s, one)
		}
		mixed := copied(s)
		for i, order := range r.Perm(len(s.Orders)) {
			mixed.Orders[i] = s.Orders[order]
		}
		same(s, mixed)
	})
	if pairs < 500 {
		t.Error("too few", pairs)
	}
}

// TestOneMore is P9.14 for one more order.
func TestOneMore(t *testing.T) {
	dearer, not := 0, 0
	eachFilled(t, 3000, full-1, most, func(r *rand.Rand, s api.GradeShop) {
		more := copied(s)
		more.Orders = slices.Insert(more.Orders, r.Intn(len(s.Orders)+1), api.GradeOrder{Grade: r.Intn(len(s.Stock)), Many: r.Int63n(5)})
		if !canFill(more) {
			return
		}
		switch m, n := least(t, s), least(t, more); {
		case n < m:
			t.Error(more.Orders, m, n)
		case n > m:
			dearer++
		default:
			not++
		}
	})
	if dearer < 200 || not < 200 {
		t.Error("too few of a sort", dearer, not)
	}
}

// TestRefused is P9.15.
func TestRefused(t *testing.T) {
	fewer, same := 0, 0
	each(t, 2000, full, most, func(r *rand.Rand, s api.GradeShop) {
		list := told(t, grade.Refuse, s)
		if (len(list) > 0) != isShort(t, s) {
			t.Error(list)
		}
		if left := without(s, list); isShort(t, left) || len(told(t, grade.Refuse, left)) > 0 {
			t.Error("the others", list)
		}
		g := r.Intn(len(s.Stock))
		s = more(s, g, min(r.Int63n(10), api.MaxGradeStock-s.Stock[g]))
		switch other := told(t, grade.Refuse, s); {
		case len(other) > len(list):
			t.Error("with more", g, list, other)
		case len(other) < len(list):
			fewer++
		case len(list) > 0:
			same++
		}
	})
	if fewer < 100 || same < 100 {
		t.Error("too few of a sort", fewer, same)
	}
}
