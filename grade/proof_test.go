package grade_test

import (
	"math"
	"math/rand"
	"slices"
	"testing"

	"crossband/api"
	"crossband/grade"
)

// TestCheckProof is P9.5: the examples, each error, and which one comes first.
func TestCheckProof(t *testing.T) {
	for i, x := range []struct {
		s     api.GradeShop
		proof []int64
		n     int64
		e     api.Errno
	}{
		{shopC(), longs(0, 4, 7), 53, api.OK},
		{shopC(), longs(0, 0, 0), 46, api.OK},
		{shopC(), longs(0, 0), 0, api.ErrEqual},
		{shopC(), longs(0, 0, 101), 0, api.ErrRange},
		{shopB(), longs(0, 0, 0), 46, api.OK},
		{shopB(), longs(100, 100, 100), 246, api.OK},
		{shopC(), longs(100, 100, 100), -54, api.OK},
		{shopA(), longs(0, 4, 7), 39, api.OK},
		{shopA(), longs(0, 0, 1), 45, api.OK},
		{shopA(), longs(0, 0, 3), 43, api.OK},
		{shopA(), longs(0, 0, 4), 38, api.OK}, // the better grade is as cheap
		{shopA(), longs(100, 0, 0), -54, api.OK},
		{shopA(), longs(0, 100, 100), -810, api.OK},
		{shopC(), nil, 0, api.ErrEqual},
		{shopC(), longs(0, 4, 7, 0), 0, api.ErrEqual},
		{shopC(), longs(-1, 101), 0, api.ErrEqual}, // not out of range first
		{shopC(), make([]int64, 5000), 0, api.ErrEqual},
		{shopC(), longs(-1, 0, 0), 0, api.ErrRange},
		{shopC(), longs(101, 0, 0), 0, api.ErrRange},
		{shopC(), longs(0, 0, -1), 0, api.ErrRange},
		{shopC(), longs(0, math.MaxInt64, 0), 0, api.ErrRange},
		{shopC(), longs(0, math.MinInt64, 0), 0, api.ErrRange},
		{shop(longs(7), longs(3)), longs(0), 0, api.OK},
		{shop(longs(7), longs(3)), longs(5), -35, api.OK},
		{shop(longs(0), longs(3), 0, 1), longs(100), 103, api.OK},
		{shop(longs(50, 50), longs(100, 100), slices.Repeat(longs(1, 20), 8)...), longs(100, 100), 22000, api.OK},
	} {
		if n, e := grade.CheckProof(x.s, x.proof); n != x.n || e != x.e {
			t.Error(i, n, e)
		}
	}
	for n := int64(-5); n < 130; n++ {
		for g := range 3 {
			proof, want := longs(0, 0, 0), api.OK
			proof[g] = n
			if n < 0 || n > 100 {
				want = api.ErrRange
			}
			if _, e := grade.CheckProof(shopC(), proof); e != want {
				t.Error(g, n, e)
			}
		}
	}
}

// TestCheckProofOfAll holds P9.5 against sums, for shops of all kinds.
func TestCheckProofOfAll(t *testing.T) {
	up := 0
	each(t, 3000, full, most, func(r *rand.Rand, s api.GradeShop) {
		for range 5 {
			proof := randomProof(r, s)
			if n, e := grade.CheckProof(s, proof); n != provedBy(s, proof) || e != api.OK {
				t.Error(proof, n, e)
			}
			for _, o := range s.Orders {
				if o.Grade > 0 && s.Price[o.Grade-1]+proof[o.Grade-1] < s.Price[o.Grade]+proof[o.Grade] {
					up++
				}
			}
		}
	})
	if up < 1000 {
		t.Error("too few for which a better grade is cheaper", up)
	}
}

// TestWorth is P9.6: the examples, each error, and which one comes first.
func TestWorth(t *testing.T) {
	for i, x := range []struct {
		s     api.GradeShop
		worth []int64
	}{
		{shopA(), longs(0, 0, 0)},
		{shopC(), longs(0, 4, 7)},
		{example(2, 4, 4), longs(0, 0, 0)}, // all is spent, but nothing is lacking
		{example(10, 0, 0), longs(0, 4, 7)},
		{example(2, 8, 0), longs(0, 0, 3)},
		{example(3, 7, 0), longs(0, 4, 7)},
		{example(6, 0, 4), longs(0, 4, 0)},
		{shop(longs(50), longs(100)), longs(0)},
		{shop(longs(50), longs(100), 0, 20, 0, 20, 0, 10), longs(0)},
		{shop(longs(5, 0, 0), longs(9, 5, 2), 2, 3), longs(0, 4, 7)},
		{shop(longs(5, 5, 5), longs(9, 5, 2), 2, 3), longs(0, 0, 0)},
		{shop(longs(5, 1, 5), longs(9, 5, 2), 1, 3, 0, 1), longs(0, 4, 0)},
		{shop(longs(4, 1, 1, 1), longs(8, 4, 2, 1), 3, 4, 1, 2), longs(0, 4, 6, 7)},
		{shop(longs(5, 0), longs(3, 3), 1, 4), longs(0, 0)},
		{shop(longs(50, 50), longs(100, 0), slices.Repeat(longs(1, 20), 5)...), longs(0, 100)}, // one more than there can be
		{shop(longs(50, 50, 50), longs(90, 60, 10), slices.Repeat(longs(2, 20), 5)...), longs(0, 0, 50)},
		{shop(longs(50, 50, 50), longs(90, 60, 10), slices.Repeat(longs(2, 20), 6)...), longs(0, 30, 80)},
	} {
		for g, want := range x.worth {
			if n := worth(t, x.s, g); n != want {
				t.Error(i, g, n)
			}
		}
		for _, g := range indexes(-1, len(x.worth), 5, 6, 5000, math.MaxInt, math.MinInt) {
			if n, e := grade.Worth(x.s, g); n != 0 || e != api.ErrArg {
				t.Error(i, g, n, e)
			}
		}
	}
	for g := -5; g < 10; g++ {
		want := api.ErrArg
		if 0 <= g && g < 3 {
			want = api.ErrGrade
		}
		if n, e := grade.Worth(shopB(), g); n != 0 || e != want {
			t.Error(g, n, e)
		}
	}
	if list, e := grade.Proof(shopB()); len(list) != 0 || e != api.ErrGrade {
		t.Error(list, e)
	}
}

// TestWorthOfAll holds P9.6 against the least costs, up to the limits, also of shops with more sheets than there can be.
func TestWorthOfAll(t *testing.T) {
	none, some, above := 0, 0, 0
	eachFilled(t, 5000, full, most, func(_ *rand.Rand, s api.GradeShop) {
		before := costOf(s, spentByHand(s))
		for g := range s.Stock {
			want := before - costOf(s, spentByHand(more(s, g, 1)))
			if n := worth(t, s, g); n != want {
				t.Error(g, n, want)
			}
			switch {
			case want == 0:
				none++
			case s.Stock[g] == api.MaxGradeStock:
				above++
			default:
				some++
			}
		}
		proof := told(t, grade.Proof, s)
		if len(proof) != len(s.Stock) || slices.Min(proof) < 0 || slices.Max(proof) > api.MaxGradePrice || provedBy(s, proof) != before {
			t.Error("proof", proof, before)
		}
		if n, e := grade.CheckProof(s, proof); n != before || e != api.OK {
			t.Error("its check", proof, n, e, before)
		}
	})
	if none < 1000 || some < 1000 || above < 1 {
		t.Error("too few of a sort", none, some, above)
	}
	each(t, 1000, full, most, func(_ *rand.Rand, s api.GradeShop) {
		if canFill(s) {
			return
		}
		if list, e := grade.Proof(s); len(list) != 0 || e != api.ErrGrade {
			t.Error(list, e)
		}
		if n, e := grade.Worth(s, 0); n != 0 || e != api.ErrGrade {
			t.Error(n, e)
		}
	})
}
