package grade_test

import (
	"math"
	"math/rand"
	"slices"
	"testing"

	"crossband/api"
	"crossband/grade"
)

// badShops are shops that are not valid, with their errors; of several errors the one named first (R1).
var badShops = []struct {
	name string
	s    api.GradeShop
	e    api.Errno
}{
	{"nothing", api.GradeShop{}, api.ErrMany},
	{"no grades", shop(nil, longs(1)), api.ErrMany},
	{"no grades, but orders", shop(nil, nil, 0, 1), api.ErrMany},
	{"six grades", shop(make([]int64, 6), make([]int64, 6)), api.ErrMany},
	{"six grades, five prices", shop(make([]int64, 6), make([]int64, 5)), api.ErrMany},
	{"far too many grades", shop(make([]int64, 5000), make([]int64, 5000)), api.ErrMany},
	{"six grades, and nothing else valid", shop(slices.Repeat(longs(-1), 6), longs(1, 2), 7, 21), api.ErrMany},
	{"nine orders", shop(longs(1), longs(1), make([]int64, 18)...), api.ErrMany},
	{"nine orders, no prices", shop(longs(1), nil, make([]int64, 18)...), api.ErrMany},
	{"nine orders, none of them valid", shop(longs(1), longs(1), slices.Repeat(longs(-1), 18)...), api.ErrMany},
	{"nine orders, and too great a stock", shop(longs(51), longs(1), make([]int64, 18)...), api.ErrMany},
	{"nine orders, and prices that rise", shop(longs(1, 1), longs(1, 2), make([]int64, 18)...), api.ErrMany},
	{"far too many orders", shop(longs(1), longs(1), make([]int64, 10000)...), api.ErrMany},
	{"no prices", shop(longs(0), nil), api.ErrEqual},
	{"a price too few", shop(longs(1, 1), longs(1)), api.ErrEqual},
	{"a price too many", shop(longs(1, 1), longs(1, 1, 1)), api.ErrEqual},
	{"a price too few, and too great a stock", shop(longs(51, 0), longs(0)), api.ErrEqual},
	{"a price too many, and one too great", shop(longs(1), longs(101, 1)), api.ErrEqual},
	{"a price too many, that rise", shop(longs(1), longs(1, 2)), api.ErrEqual},
	{"a price too few, and a wrong order", shop(longs(1, 1), longs(1), 2, 21), api.ErrEqual},
	{"too great a stock", shop(longs(51), longs(0)), api.ErrRange},
	{"a stock below 0", shop(longs(-1), longs(0)), api.ErrRange},
	{"too great a stock of the last one", shop(longs(1, 1, 1, 1, 51), longs(5, 4, 3, 2, 1)), api.ErrRange},
	{"the greatest stock", shop(longs(1, math.MaxInt64), longs(1, 1)), api.ErrRange},
	{"the least stock", shop(longs(1, math.MinInt64), longs(1, 1)), api.ErrRange},
	{"too great a price", shop(longs(1, 1), longs(101, 1)), api.ErrRange},
	{"a price below 0", shop(longs(1, 1), longs(1, -1)), api.ErrRange},
	{"too great a price, that rise", shop(longs(1, 1), longs(0, 101)), api.ErrRange},
	{"the greatest price", shop(longs(1, 1), longs(math.MaxInt64, 1)), api.ErrRange},
	{"the least price", shop(longs(1, 1), longs(1, math.MinInt64)), api.ErrRange},
	{"no such grade", shop(longs(1, 1), longs(1, 1), 2, 0), api.ErrRange},
	{"a grade that prices that rise would have", shop(longs(1, 1), longs(1, 2), 2, 0), api.ErrRange},
	{"a grade below 0", shop(longs(1, 1), longs(1, 1), -1, 0), api.ErrRange},
	{"the greatest grade", shop(longs(1, 1), longs(1, 1), math.MaxInt64, 0), api.ErrRange},
	{"the least grade", shop(longs(1, 1), longs(1, 1), math.MinInt64, 0), api.ErrRange},
	{"too many sheets", shop(longs(1, 1), longs(1, 1), 0, 21), api.ErrRange},
	{"sheets below 0", shop(longs(1, 1), longs(1, 1), 0, -1), api.ErrRange},
	{"too many sheets, of the last order", shop(longs(1, 1), longs(1, 2), 0, 1, 1, 1, 1, 21), api.ErrRange},
	{"the most sheets", shop(longs(1, 1), longs(1, 1), 0, math.MaxInt64), api.ErrRange},
	{"the least sheets", shop(longs(1, 1), longs(1, 1), 0, math.MinInt64), api.ErrRange},
	{"prices that rise", shop(longs(1, 1), longs(1, 2)), api.ErrRule},
	{"prices that rise at last", shop(longs(1, 1, 1, 1, 1), longs(9, 7, 7, 0, 1), 4, 20), api.ErrRule},
	{"prices that fall and rise", shop(longs(1, 1, 1), longs(5, 4, 5)), api.ErrRule},
	{"prices that rise and fall", shop(longs(1, 1, 1), longs(4, 5, 3)), api.ErrRule},
	{"prices from the least to the greatest", shop(longs(1, 1), longs(0, 100), 0, 20), api.ErrRule},
}

// TestCheckShop is P9.1.
func TestCheckShop(t *testing.T) {
	for _, x := range badShops {
		if e := grade.CheckShop(x.s); e != x.e {
			t.Error(x.name, e)
		}
	}
	each(t, 1000, full, most, func(_ *rand.Rand, s api.GradeShop) {
		if e := grade.CheckShop(s); e != api.OK {
			t.Error(e)
		}
	})
	for many := range 20 {
		for i, x := range []struct {
			s  api.GradeShop
			ok bool
		}{
			{shop(make([]int64, many), make([]int64, many)), 1 <= many && many <= 5},
			{shop(longs(0), longs(0), make([]int64, 2*many)...), many <= 8},
		} {
			if e := grade.CheckShop(x.s); (e == api.OK) != x.ok || !x.ok && e != api.ErrMany {
				t.Error(i, many, e)
			}
		}
	}
	for n := int64(-5); n < 130; n++ {
		for i, x := range []struct {
			s    api.GradeShop
			ok   bool
			want api.Errno
		}{
			{shop(longs(n, 5), longs(4, 4)), 0 <= n && n <= 50, api.ErrRange},
			{shop(longs(5, 5, n), longs(4, 4, 4)), 0 <= n && n <= 50, api.ErrRange},
			{shop(longs(5), longs(n)), 0 <= n && n <= 100, api.ErrRange},
			{shop(longs(5, 5), longs(100, n)), 0 <= n && n <= 100, api.ErrRange},
			{shop(longs(5, 5), longs(n, 0)), 0 <= n && n <= 100, api.ErrRange},
			{shop(longs(5, 5), longs(4, 4), n, 3), 0 <= n && n <= 1, api.ErrRange},
			{shop(longs(5, 5, 5, 5, 5), longs(4, 4, 4, 4, 4), 0, 0, n, 0), 0 <= n && n <= 4, api.ErrRange},
			{shop(longs(5, 5), longs(4, 4), 1, n), 0 <= n && n <= 20, api.ErrRange},
			{shop(longs(5, 5), longs(4, 4), 1, 20, 0, n), 0 <= n && n <= 20, api.ErrRange},
			{shop(longs(5, 5, 5), longs(100, min(max(n, 0), 100), 40)), n >= 40, api.ErrRule},
			{shop(longs(5, 5, 5), longs(40, min(max(n, 0), 100), 0)), n <= 40, api.ErrRule},
		} {
			if e := grade.CheckShop(x.s); (e == api.OK) != x.ok || !x.ok && e != x.want {
				t.Error(i, n, e)
			}
		}
	}
}

// TestCheckFill is P9.2: the examples, each error, and which one comes first.
func TestCheckFill(t *testing.T) {
	right := fillOf(longs(2, 0, 0), longs(0, 4, 0), longs(0, 0, 4))
	for i, x := range []struct {
		s    api.GradeShop
		fill [][]int64
		n    int64
		e    api.Errno
	}{
		{shopA(), right, 46, api.OK},
		{shopA(), fillOf(longs(2, 0, 0), longs(1, 3, 0), longs(0, 1, 3)), 53, api.OK},
		{shopA(), fillOf(longs(1, 1, 0), longs(0, 4, 0), longs(0, 0, 4)), 0, api.ErrGrade},
		{shopA(), fillOf(longs(2, 0, 0), longs(0, 4, 0), longs(0, 0, 3)), 0, api.ErrSum},
		{shopA(), fillOf(longs(2, 0, 0), longs(0, 4, 0), longs(0, 1, 3)), 0, api.ErrOver},
		{example(10, 0, 0), fillOf(longs(2, 0, 0), longs(4, 0, 0), longs(4, 0, 0)), 90, api.OK},
		{example(9, 0, 0), fillOf(longs(2, 0, 0), longs(4, 0, 0), longs(4, 0, 0)), 0, api.ErrOver},
		{example(2, 4, 4), right, 46, api.OK}, // all that is there
		{example(1, 4, 4), right, 0, api.ErrOver},
		{example(2, 3, 4), right, 0, api.ErrOver},
		{example(2, 4, 3), right, 0, api.ErrOver},
		{shopB(), right, 0, api.ErrOver},
		{shopB(), nil, 0, api.ErrEqual},
		{shopA(), nil, 0, api.ErrEqual},
		{shopA(), right[:2], 0, api.ErrEqual},
		{shopA(), append(slices.Clone(right), longs(0, 0, 0)), 0, api.ErrEqual},
		{shopA(), fillOf(longs(2, 0, 0), longs(0, 4, 0), longs(0, 4)), 0, api.ErrEqual},
		{shopA(), fillOf(longs(2, 0, 0, 0), longs(0, 4, 0), longs(0, 0, 4)), 0, api.ErrEqual},
		{shopA(), fillOf(longs(2, 0, 0), nil, longs(0, 0, 4)), 0, api.ErrEqual},
		{shopA(), fillOf(longs(-1, 21, 5), longs(0, 4, 0), longs(0, 4)), 0, api.ErrEqual}, // not out of range first
		{shopA(), fillOf(longs(2, 0, 0), longs(0, 4, 0), longs(0, -1, 5)), 0, api.ErrRange},
		{shopA(), fillOf(longs(2, 0, 0), longs(0, 4, 0), longs(21, 0, -17)), 0, api.ErrRange},
		{shopA(), fillOf(longs(2, 0, 0), longs(0, 4, -1), longs(0, 0, 4)), 0, api.ErrRange},
		{shopA(), fillOf(longs(0, 2, 0), longs(0, 4, 0), longs(0, 21, 0)), 0, api.ErrRange}, // not of too bad a grade first
		{shopA(), fillOf(longs(1, 0, 0), longs(0, 4, 0), longs(0, 0, 21)), 0, api.ErrRange}, // not too few first
		{shopA(), fillOf(longs(2, 0, 0), longs(0, 4, 0), longs(0, 0, math.MaxInt64)), 0, api.ErrRange},
		{shopA(), fillOf(longs(2, 0, 0), longs(0, 4, 0), longs(math.MinInt64, math.MaxInt64, 5)), 0, api.ErrRange},
		{shopA(), fillOf(longs(0, 0, 0), longs(0, 3, 1), longs(0, 0, 4)), 0, api.ErrGrade}, // not too few first
		{shopA(), fillOf(longs(3, 0, 0), longs(9, 0, 0), longs(9, 0, 0)), 0, api.ErrSum},   // not too many first
		{shopA(), fillOf(longs(3, 0, 0), longs(0, 4, 0), longs(0, 0, 3)), 0, api.ErrSum},
		{shopA(), fillOf(longs(2, 0, 0), longs(0, 4, 0), longs(0, 0, 5)), 0, api.ErrSum},
		{shopA(), fillOf(longs(0, 0, 20), longs(0, 20, 0), longs(20, 0, 0)), 0, api.ErrGrade},
		{shopA(), fillOf(longs(0, 0, 0), longs(0, 0, 0), longs(0, 0, 0)), 0, api.ErrSum},
		{shop(longs(5), longs(7)), nil, 0, api.OK},
		{shop(longs(5), longs(7)), fillOf(longs(0)), 0, api.ErrEqual},
		{shop(longs(5), longs(7), 0, 0), fillOf(longs(0)), 0, api.OK},
		{shop(longs(0), longs(7), 0, 0), fillOf(longs(0)), 0, api.OK},
		{shop(longs(0), longs(7), 0, 0), fillOf(longs(1)), 0, api.ErrSum},
		{shop(longs(50, 50), longs(100, 100), 1, 20, 1, 20, 1, 20, 1, 20, 1, 20), fillOf(longs(20, 0), longs(20, 0), longs(10, 10), longs(0, 20), longs(0, 20)), 10000, api.OK},
		{shop(longs(50, 50), longs(100, 99), 1, 20, 1, 20, 1, 20, 1, 20, 1, 20), fillOf(longs(20, 0), longs(20, 0), longs(11, 9), longs(0, 20), longs(0, 20)), 0, api.ErrOver},
		{shopA(), make([][]int64, 5000), 0, api.ErrEqual},
		{shopA(), fillOf(make([]int64, 5000), make([]int64, 5000), make([]int64, 5000)), 0, api.ErrEqual},
	} {
		if n, e := grade.CheckFill(x.s, x.fill); n != x.n || e != x.e {
			t.Error(i, n, e)
		}
	}
}

// spoilt returns a fill that may not be right any more.
func spoilt(r *rand.Rand, s api.GradeShop, fill [][]int64) [][]int64 {
	out := copiedFill(fill)
	for range r.Intn(4) {
		if len(out) == 0 {
			return append(out, make([]int64, len(s.Stock)))
		}
		i := r.Intn(len(out))
		row := out[i]
		if len(row) == 0 {
			continue
		}
		switch g, other := r.Intn(len(row)), r.Intn(len(row)); r.Intn(20) {
		case 0:
			out = append(out, make([]int64, len(s.Stock)))
		case 1:
			out = slices.Delete(out, i, i+1)
		case 2:
			out[i] = append(row, 0)
		case 3:
			out[i] = row[1:]
		case 4, 5, 6:
			row[g] = longs(-1, 20, 21, 0, 1)[r.Intn(5)]
		case 7, 8, 9:
			row[g]++
		default: // another grade for one sheet, or for all
			n := longs(1, row[g])[r.Intn(2)]
			row[g] -= n
			row[other] += n
		}
	}
	return out
}

// rightOrNot returns a right fill, if all orders can be filled, or one with more sheets than there are.
func rightOrNot(r *rand.Rand, s api.GradeShop) [][]int64 {
	if canFill(s) && r.Intn(3) > 0 {
		return randomFill(r, s)
	}
	s.Stock = slices.Repeat(longs(500), len(s.Stock))
	return randomFill(r, s)
}

// TestCheckFillOfAll holds P9.2 against fills of all kinds.
func TestCheckFillOfAll(t *testing.T) {
	sorts := map[api.Errno]int{}
	each(t, 2000, full, most, func(r *rand.Rand, s api.GradeShop) {
		for range 5 {
			fill := spoilt(r, s, rightOrNot(r, s))
			want, f := faultOfFill(s, fill)
			sorts[f]++
			if n, e := grade.CheckFill(s, fill); n != want || e != f {
				t.Error(fill, n, e, want, f)
			}
		}
	})
	for _, e := range []api.Errno{api.OK, api.ErrEqual, api.ErrRange, api.ErrGrade, api.ErrSum, api.ErrOver} {
		if sorts[e] < 100 {
			t.Error("too few of a sort", sorts)
		}
	}
}

// TestShort is P9.3: the examples, and the edges.
func TestShort(t *testing.T) {
	for i, x := range []struct {
		s     api.GradeShop
		short []int64
		first int
		e     api.Errno
	}{
		{shopA(), longs(-1, -1, -2), 0, api.ErrNone},
		{shopB(), longs(-1, -1, 2), 2, api.OK},
		{shopC(), longs(-2, -2, -1), 0, api.ErrNone},
		{example(1, 9, 9), longs(1, -4, -9), 0, api.OK},
		{example(3, 2, 9), longs(-1, 1, -4), 1, api.OK},
		{example(2, 4, 4), longs(0, 0, 0), 0, api.ErrNone},
		{example(0, 0, 0), longs(2, 6, 10), 0, api.OK},
		{example(2, 3, 4), longs(0, 1, 1), 1, api.OK},
		{example(2, 4, 3), longs(0, 0, 1), 2, api.OK},
		{example(10, 0, 0), longs(-8, -4, 0), 0, api.ErrNone},
		{example(9, 0, 0), longs(-7, -3, 1), 2, api.OK},
		{example(1, 5, 4), longs(1, 0, 0), 0, api.OK},
		{shop(longs(0), longs(0)), longs(0), 0, api.ErrNone},
		{shop(longs(50), longs(0)), longs(-50), 0, api.ErrNone},
		{shop(longs(0, 0), longs(0, 0), 1, 0), longs(0, 0), 0, api.ErrNone},
		{shop(longs(0, 0), longs(0, 0), 1, 1), longs(0, 1), 1, api.OK},
		{shop(longs(0, 0, 0, 0, 0), longs(0, 0, 0, 0, 0), slices.Repeat(longs(0, 20), 8)...), longs(160, 160, 160, 160, 160), 0, api.OK},
		{shop(longs(50, 50, 50, 50, 50), longs(0, 0, 0, 0, 0)), longs(-50, -100, -150, -200, -250), 0, api.ErrNone},
	} {
		for g, want := range x.short {
			if n, e := grade.CheckShort(x.s, g); n != want || e != api.OK {
				t.Error(i, g, n, e)
			}
		}
		if g, e := grade.Short(x.s); g != x.first || e != x.e {
			t.Error(i, g, e)
		}
		for _, g := range indexes(-1, len(x.short), 5, 6, 5000, -5000, math.MaxInt, math.MinInt) {
			if n, e := grade.CheckShort(x.s, g); n != 0 || e != api.ErrArg {
				t.Error(i, g, n, e)
			}
		}
	}
}

// TestShortOfAll holds P9.3 against sums.
func TestShortOfAll(t *testing.T) {
	sorts := map[int]int{}
	each(t, 3000, full, most, func(_ *rand.Rand, s api.GradeShop) {
		first, want := 0, api.ErrNone
		for g := range s.Stock {
			asked, there := ordered(s, g)
			if n, e := grade.CheckShort(s, g); n != asked-there || e != api.OK {
				t.Error(g, n, e, asked, there)
			}
			if asked > there && want != api.OK {
				first, want = g, api.OK
				sorts[g]++
			}
		}
		if g, e := grade.Short(s); g != first || e != want {
			t.Error(g, e, first, want)
		}
	})
	for g := range api.MaxGradeGrades {
		if sorts[g] < 20 {
			t.Error("too few of a sort", sorts)
		}
	}
}

// other is what functions are given besides a shop.
type other struct {
	fill        [][]int64
	grade       int
	proof, more []int64
}

// functions call each function with a shop, and report whether it returns zero values.
var functions = map[string]func(s api.GradeShop, o other) (bool, api.Errno){
	"CheckFill": func(s api.GradeShop, o other) (bool, api.Errno) {
		n, e := grade.CheckFill(s, o.fill)
		return n == 0, e
	},
	"CheckShort": func(s api.GradeShop, o other) (bool, api.Errno) {
		n, e := grade.CheckShort(s, o.grade)
		return n == 0, e
	},
	"Short": func(s api.GradeShop, _ other) (bool, api.Errno) {
		n, e := grade.Short(s)
		return n == 0, e
	},
	"Spent": func(s api.GradeShop, _ other) (bool, api.Errno) {
		list, e := grade.Spent(s)
		return len(list) == 0, e
	},
	"Least": func(s api.GradeShop, _ other) (bool, api.Errno) {
		n, e := grade.Least(s)
		return n == 0, e
	},
	"Fill": func(s api.GradeShop, _ other) (bool, api.Errno) {
		list, e := grade.Fill(s)
		return len(list) == 0, e
	},
	"CheckProof": func(s api.GradeShop, o other) (bool, api.Errno) {
		n, e := grade.CheckProof(s, o.proof)
		return n == 0, e
	},
	"Proof": func(s api.GradeShop, _ other) (bool, api.Errno) {
		list, e := grade.Proof(s)
		return len(list) == 0, e
	},
	"Worth": func(s api.GradeShop, o other) (bool, api.Errno) {
		n, e := grade.Worth(s, o.grade)
		return n == 0, e
	},
	"Span": func(s api.GradeShop, o other) (bool, api.Errno) {
		lo, hi, e := grade.Span(s, o.more)
		return lo == 0 && hi == 0, e
	},
	"Refuse": func(s api.GradeShop, _ other) (bool, api.Errno) {
		list, e := grade.Refuse(s)
		return len(list) == 0, e
	},
}

// TestErrorsFirst: all functions return the error of CheckShop before their own ones, and zero values with it (R1, R2).
func TestErrorsFirst(t *testing.T) {
	for _, x := range badShops {
		for call, f := range functions {
			for _, o := range []other{
				{},
				{fillOf(nil), -1, longs(-1), longs(-1)},
				{fillOf(longs(0)), 1, longs(0), longs(0)},
				{fillOf(longs(0, 0)), 0, longs(0, 0), longs(0, 0)},
				{fillOf(longs(21)), 5, longs(101), longs(51)},
				{make([][]int64, 5000), math.MaxInt, make([]int64, 5000), make([]int64, 5000)},
				{fillOf(longs(math.MinInt64)), math.MinInt, longs(math.MaxInt64), longs(math.MaxInt64)},
			} {
				if zero, e := f(x.s, o); !zero || e != x.e {
					t.Error(call, x.name, o, e)
				}
			}
		}
	}
}

// TestZeroValues: with an error of their own all functions return zero values (R2).
func TestZeroValues(t *testing.T) {
	for call, want := range map[string]api.Errno{
		"CheckFill": api.ErrOver, "Spent": api.ErrGrade, "Least": api.ErrGrade, "Fill": api.ErrGrade, "Proof": api.ErrGrade, "Worth": api.ErrGrade, "Span": api.ErrGrade,
	} {
		o := other{fillOf(longs(2, 0, 0), longs(0, 4, 0), longs(0, 0, 4)), 2, longs(0, 0, 0), longs(9, 9, 9)}
		if zero, e := functions[call](shopB(), o); !zero || e != want {
			t.Error(call, e)
		}
	}
}
