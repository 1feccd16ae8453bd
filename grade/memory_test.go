package grade_test

import (
	"math"
	"math/rand"
	"reflect"
	"slices"
	"testing"

	"crossband/api"
	"crossband/grade"
)

// callAll calls all functions, and lists what they return.
func callAll(s api.GradeShop, o other) []any {
	var out []any
	add := func(x any, e api.Errno) { out = append(out, x, e) }
	add(nil, grade.CheckShop(s))
	n, e := grade.CheckFill(s, o.fill)
	add(n, e)
	n, e = grade.CheckShort(s, o.grade)
	add(n, e)
	g, e := grade.Short(s)
	add(g, e)
	list, e := grade.Spent(s)
	add(list, e)
	n, e = grade.Least(s)
	add(n, e)
	fill, e := grade.Fill(s)
	add(fill, e)
	n, e = grade.CheckProof(s, o.proof)
	add(n, e)
	list, e = grade.Proof(s)
	add(list, e)
	n, e = grade.Worth(s, o.grade)
	add(n, e)
	lo, hi, e := grade.Span(s, o.more)
	add(longs(lo, hi), e)
	refused, e := grade.Refuse(s)
	add(refused, e)
	return out
}

// randomOther returns what functions can be given besides a shop.
func randomOther(r *rand.Rand, s api.GradeShop) other {
	return other{rightOrNot(r, s), r.Intn(len(s.Stock)), randomProof(r, s), randomNumbers(r, len(s.Stock), 3)}
}

// copiedOther returns the same in other memory.
func copiedOther(o other) other {
	return other{copiedFill(o.fill), o.grade, slices.Clone(o.proof), slices.Clone(o.more)}
}

// TestAgain: equal calls return equal results (R9, R10), whatever is called in between, and no argument is changed (R4).
func TestAgain(t *testing.T) {
	var first [][]any
	for round := range 4 {
		r := rand.New(rand.NewSource(9))
		for i, s := range goodShops {
			o := randomOther(r, s)
			given, own := copied(s), copiedOther(o)
			got := callAll(given, own)
			if !reflect.DeepEqual(given, copied(s)) || !reflect.DeepEqual(own, copiedOther(o)) {
				t.Fatal("changed", given, own)
			}
			if round == 0 {
				first = append(first, got)
			} else if !reflect.DeepEqual(got, first[i]) {
				t.Fatal(got, first[i])
			}
		}
	}
}

// spare returns a list with the same elements and one more, which its room behind them has.
func spare[T any](list []T, x T) []T { return append(slices.Clone(list), x) }

// TestSpare: room behind the elements of an argument is not written to (R4).
func TestSpare(t *testing.T) {
	r := rand.New(rand.NewSource(8))
	for _, s := range goodShops {
		o := randomOther(r, s)
		stock, price, orders := spare(s.Stock, 77), spare(s.Price, 77), spare(s.Orders, api.GradeOrder{Grade: 77, Many: 77})
		fill, proof, more := spare(o.fill, longs(77)), spare(o.proof, 77), spare(o.more, 77)
		for i, row := range o.fill {
			fill[i] = spare(row, 77)[:len(row)]
		}
		given := api.GradeShop{Stock: stock[:len(s.Stock)], Price: price[:len(s.Price)], Orders: orders[:len(s.Orders)]}
		callAll(given, other{fill[:len(o.fill)], o.grade, proof[:len(o.proof)], more[:len(o.more)]})
		for i, row := range o.fill {
			if !slices.Equal(fill[i][:len(row)+1], spare(row, 77)) {
				t.Fatal("row", fill[i], row)
			}
		}
		if !slices.Equal(stock, spare(s.Stock, 77)) || !slices.Equal(price, spare(s.Price, 77)) || orders[len(s.Orders)].Grade != 77 {
			t.Fatal("shop", stock, price, orders)
		}
		if len(fill[len(o.fill)]) != 1 || !slices.Equal(proof, spare(o.proof, 77)) || !slices.Equal(more, spare(o.more, 77)) {
			t.Fatal(fill, proof, more)
		}
	}
}

// overwrite changes all elements of a list, and what is in the room behind them.
func overwrite[T any](list []T, x T) {
	list = list[:cap(list)]
	for i := range list {
		list[i] = x
	}
}

// TestOwnMemory: what one call returns can be changed, or grown, without a trace in an argument, in what another one returns, or in another list of a fill (R4).
func TestOwnMemory(t *testing.T) {
	for _, s := range goodShops {
		given, o := copied(s), other{nil, 0, slices.Clone(s.Price), make([]int64, len(s.Stock))}
		before := callAll(given, o)
		if canFill(s) {
			fill := told(t, grade.Fill, given)
			own := copiedFill(fill)
			for i, row := range fill {
				overwrite(row, 77)
				if !reflect.DeepEqual(copiedFill(fill[i+1:]), own[i+1:]) {
					t.Fatal("fill", fill, own)
				}
			}
			overwrite(fill, longs(77))
			overwrite(spent(t, given), 77)
			overwrite(told(t, grade.Proof, given), 77)
		}
		overwrite(told(t, grade.Refuse, given), 77)
		if !reflect.DeepEqual(given, copied(s)) {
			t.Fatal("changed", given, s)
		}
		if after := callAll(given, o); !reflect.DeepEqual(before, after) {
			t.Fatal(before, after)
		}
	}
}

// TestEmpty: a nil list and an empty one are the same (R3).
func TestEmpty(t *testing.T) {
	for _, s := range []api.GradeShop{{}, shop(longs(3), nil), shop(nil, longs(3)), shop(longs(3), longs(5)), shop(longs(3, 4), longs(5, 5)), shopA()} {
		empty := s
		if len(s.Stock) == 0 {
			empty.Stock = []int64{}
		}
		if len(s.Price) == 0 {
			empty.Price = []int64{}
		}
		if len(s.Orders) == 0 {
			empty.Orders = []api.GradeOrder{}
		}
		full := callAll(empty, other{[][]int64{}, 0, []int64{}, []int64{}})
		if !reflect.DeepEqual(full, callAll(s, other{})) {
			t.Error(s)
		}
		full = callAll(empty, other{[][]int64{{}, {}, {}}, 0, []int64{}, []int64{}})
		if !reflect.DeepEqual(full, callAll(s, other{fill: make([][]int64, 3)})) {
			t.Error("lists of a fill", s)
		}
	}
}

// TestAnyNumber: no call panics, whatever the numbers are (P1, R5).
func TestAnyNumber(t *testing.T) {
	numbers := longs(math.MinInt64, math.MinInt64+1, -1<<32, -2, -1, 0, 1, 2, 3, 4, 5, 8, 9, 20, 21, 50, 51, 100, 101, 1<<32, 1<<62, math.MaxInt64-1, math.MaxInt64)
	for _, m := range numbers {
		for _, n := range numbers {
			o := other{fillOf(longs(m, n), longs(n, 0)), int(m), longs(m, n), longs(n, m)}
			for _, s := range []api.GradeShop{
				shop(longs(5, 5), longs(3, 3), 1, 2, 0, 1),
				shop(longs(m, n), longs(3, 3), 1, 2, 0, 1),
				shop(longs(5, 5), longs(m, n), 1, 2, 0, 1),
				shop(longs(5, 5), longs(3, 3), m, 2, 0, n),
				shop(longs(5, 5), longs(3, 3), 1, m, n, 1),
				shop(longs(m, 5), longs(n, 3), 1, 20, 0, 20),
			} {
				callAll(s, o)
			}
		}
	}
}
