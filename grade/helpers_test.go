package grade_test

import (
	"math/rand"
	"slices"
	"testing"

	"crossband/api"
	"crossband/grade"
)

func indexes(x ...int) []int        { return x }
func longs(x ...int64) []int64      { return x }
func fillOf(x ...[]int64) [][]int64 { return x }

// shop returns a shop with an order for each two numbers.
func shop(stock, price []int64, orders ...int64) api.GradeShop {
	s := api.GradeShop{Stock: stock, Price: price}
	for i := 0; i < len(orders); i += 2 {
		s.Orders = append(s.Orders, api.GradeOrder{Grade: int(orders[i]), Many: orders[i+1]})
	}
	return s
}

// example returns a shop with the Price and the Orders of the chapter's examples; shopA, shopB and shopC are A, B and C.
func example(stock ...int64) api.GradeShop { return shop(stock, longs(9, 5, 2), 0, 2, 1, 4, 2, 4) }
func shopA() api.GradeShop                 { return example(3, 4, 5) }
func shopB() api.GradeShop                 { return example(3, 4, 1) }
func shopC() api.GradeShop                 { return example(4, 4, 3) }

// goodShops are valid shops, many of them at the edges.
var goodShops = []api.GradeShop{
	shopA(),
	shopB(),
	shopC(),
	example(2, 4, 4),
	example(10, 0, 0),
	example(1, 9, 9),
	example(3, 2, 9),
	example(0, 0, 0),
	shop(longs(0), longs(0)),
	shop(longs(0), longs(0), 0, 0),
	shop(longs(0), longs(100), 0, 1),
	shop(longs(50), longs(100), 0, 20, 0, 20, 0, 10),
	shop(longs(50), longs(100), 0, 20, 0, 20, 0, 11),
	shop(longs(4), longs(7), 0, 1, 0, 2),
	shop(longs(5, 0), longs(1, 1), 1, 4, 1, 1, 0, 3),
	shop(longs(5, 5, 5), longs(9, 5, 2)),
	shop(longs(5, 0, 0), longs(9, 5, 2), 2, 3),
	shop(longs(5, 1, 5), longs(9, 5, 2), 1, 3, 0, 1),
	shop(longs(4, 1, 1, 1), longs(8, 4, 2, 1), 3, 4, 1, 2),
	shop(longs(6, 1, 1, 1), longs(8, 4, 4, 0), 3, 4, 1, 2, 2, 2),
	shop(longs(3, 3, 3, 3, 3), longs(7, 7, 7, 7, 7), 4, 5, 2, 4, 0, 1, 3, 5),
	shop(longs(50, 0, 50, 0, 50), longs(100, 100, 0, 0, 0), 4, 20, 0, 0, 4, 20, 4, 20, 4, 20, 4, 20, 3, 1, 2, 1),
	shop(longs(50, 50, 50, 50, 50), longs(100, 100, 100, 100, 100), 4, 20, 4, 20, 4, 20, 4, 20, 4, 20, 4, 20, 4, 20, 4, 20),
	shop(longs(50, 50, 50, 5, 5), longs(100, 80, 60, 30, 0), 4, 20, 4, 20, 4, 20, 4, 20, 4, 20, 4, 20, 4, 20, 4, 20),
	shop(longs(50, 0, 0, 0, 0), longs(100, 99, 98, 1, 0), 4, 20, 4, 20, 4, 10, 3, 0),
	shop(longs(0, 0, 0, 0, 0), longs(5, 4, 3, 2, 1), 0, 1, 1, 1, 2, 1, 3, 1, 4, 1, 4, 2, 3, 2, 0, 0),
	shop(longs(0, 50, 50, 50, 50), longs(5, 4, 3, 2, 1), 0, 1, 4, 20),
}

// ordered returns how many sheets orders up to a grade ask for, and how many are there.
func ordered(s api.GradeShop, grade int) (asked, there int64) {
	for _, o := range s.Orders {
		if o.Grade <= grade {
			asked += o.Many
		}
	}
	for _, n := range s.Stock[:grade+1] {
		there += n
	}
	return asked, there
}

// canFill reports whether all orders can be filled: no grade is short.
func canFill(s api.GradeShop) bool {
	for g := range s.Stock {
		if asked, there := ordered(s, g); asked > there {
			return false
		}
	}
	return true
}

// spentByHand returns what is spent, by its sums up to each grade: orders up to a grade g that is worse can only get as much from grades behind this one as there is up to g, so they ask for the rest.
func spentByHand(s api.GradeShop) []int64 {
	var spent []int64
	before := int64(0)
	for g := range s.Stock {
		most, behind := int64(0), int64(0)
		for worse := g; worse < len(s.Stock); worse++ {
			if worse > g {
				behind += s.Stock[worse]
			}
			asked, _ := ordered(s, worse)
			most = max(most, asked-behind)
		}
		spent = append(spent, most-before)
		before = most
	}
	return spent
}

// costOf returns what spent sheets cost.
func costOf(s api.GradeShop, spent []int64) int64 {
	sum := int64(0)
	for g, n := range spent {
		sum += n * s.Price[g]
	}
	return sum
}

// spentOf returns what a fill spends.
func spentOf(s api.GradeShop, fill [][]int64) []int64 {
	spent := make([]int64, len(s.Stock))
	for _, row := range fill {
		for g, n := range row {
			spent[g] += n
		}
	}
	return spent
}

// more returns a shop with some more sheets of a grade, also if it cannot have as many.
func more(s api.GradeShop, g int, many int64) api.GradeShop {
	s.Stock = slices.Clone(s.Stock)
	s.Stock[g] += many
	return s
}

// splits returns all lists of numbers from 0 on that are together n, none greater than the one of most.
func splits(n int64, most []int64) [][]int64 {
	if len(most) == 0 {
		if n == 0 {
			return fillOf(nil)
		}
		return nil
	}
	var out [][]int64
	for first := range min(n, most[0]) + 1 {
		for _, rest := range splits(n-first, most[1:]) {
			out = append(out, append(longs(first), rest...))
		}
	}
	return out
}

// allFills returns all right fills.
func allFills(s api.GradeShop) [][][]int64 {
	var out [][][]int64
	var grow func(fill [][]int64, left []int64)
	grow = func(fill [][]int64, left []int64) {
		if len(fill) == len(s.Orders) {
			out = append(out, slices.Clone(fill))
			return
		}
		o := s.Orders[len(fill)]
		for _, split := range splits(o.Many, left[:o.Grade+1]) {
			row, rest := make([]int64, len(left)), slices.Clone(left)
			for g, n := range split {
				row[g] = n
				rest[g] -= n
			}
			grow(append(slices.Clone(fill), row), rest)
		}
	}
	grow(nil, s.Stock)
	return out
}

// faultOfFill returns the error of a fill, and what it costs.
func faultOfFill(s api.GradeShop, fill [][]int64) (int64, api.Errno) {
	if len(fill) != len(s.Orders) {
		return 0, api.ErrEqual
	}
	var uneven, wrong, bad, sum, over bool
	for order, row := range fill {
		uneven = uneven || len(row) != len(s.Stock)
		all := int64(0)
		for g, n := range row {
			wrong = wrong || n < 0 || n > 20
			bad = bad || n > 0 && g > s.Orders[order].Grade
			all += n
		}
		sum = sum || all != s.Orders[order].Many
	}
	if !uneven {
		for g, n := range spentOf(s, fill) {
			over = over || n > s.Stock[g]
		}
	}
	switch {
	case uneven:
		return 0, api.ErrEqual
	case wrong:
		return 0, api.ErrRange
	case bad:
		return 0, api.ErrGrade
	case sum:
		return 0, api.ErrSum
	case over:
		return 0, api.ErrOver
	}
	return costOf(s, spentOf(s, fill)), api.OK
}

// provedBy returns what a proof proves.
func provedBy(s api.GradeShop, proof []int64) int64 {
	sum := int64(0)
	for _, o := range s.Orders {
		least := int64(1 << 40)
		for g := 0; g <= o.Grade; g++ {
			least = min(least, s.Price[g]+proof[g])
		}
		sum += least * o.Many
	}
	for g, n := range s.Stock {
		sum -= proof[g] * n
	}
	return sum
}

// without returns a shop without some of its orders.
func without(s api.GradeShop, refused []int) api.GradeShop {
	orders := s.Orders
	s.Orders = nil
	for order, o := range orders {
		if !slices.Contains(refused, order) {
			s.Orders = append(s.Orders, o)
		}
	}
	return s
}

// members returns the numbers of the bits that are set.
func members(set int) []int {
	var out []int
	for n := 0; set>>n > 0; n++ {
		if set>>n&1 == 1 {
			out = append(out, n)
		}
	}
	return out
}

// refusedByHand returns the first one of the shortest lists of orders without which all others can be filled.
func refusedByHand(s api.GradeShop) []int {
	best := members(1<<len(s.Orders) - 1)
	for set := range 1 << len(s.Orders) {
		list := members(set)
		if len(list) > len(best) || len(list) == len(best) && slices.Compare(list, best) >= 0 {
			continue
		}
		if canFill(without(s, list)) {
			best = list
		}
	}
	return best
}

// randomNumbers returns so many numbers from 0 to most.
func randomNumbers(r *rand.Rand, many int, most int64) []int64 {
	var out []int64
	for range many {
		out = append(out, r.Int63n(most+1))
	}
	return out
}

// randomShop returns a shop with up to so many orders, of up to so many sheets. Of many a one all orders can just be filled, or just not.
func randomShop(r *rand.Rand, orders int, many int64) api.GradeShop {
	grades := 1 + r.Intn(api.MaxGradeGrades)
	s := api.GradeShop{Price: randomNumbers(r, grades, longs(0, 3, 20, api.MaxGradePrice)[r.Intn(4)])}
	slices.Sort(s.Price)
	slices.Reverse(s.Price)
	for range r.Intn(orders + 1) {
		s.Orders = append(s.Orders, api.GradeOrder{Grade: r.Intn(grades), Many: r.Int63n(many + 1)})
	}
	asked, _ := ordered(api.GradeShop{Stock: make([]int64, grades), Orders: s.Orders}, grades-1)
	switch r.Intn(4) {
	case 0:
		s.Stock = randomNumbers(r, grades, api.MaxGradeStock)
	case 1:
		s.Stock = randomNumbers(r, grades, min(api.MaxGradeStock, 2*asked/int64(grades)+1))
	default: // as many sheets as orders ask for, moved to better grades, and a few more or fewer
		s.Stock = make([]int64, grades)
		for _, o := range s.Orders {
			s.Stock[r.Intn(o.Grade+1)] += o.Many
		}
		for g, n := range s.Stock {
			s.Stock[g] = min(api.MaxGradeStock, max(0, n+r.Int63n(5)-1-r.Int63n(2)))
		}
	}
	return s
}

// randomFill returns a right fill of a shop of which all orders can be filled. The orders that can get the fewest grades come first: for all later ones the sheets that they can get are alike.
func randomFill(r *rand.Rand, s api.GradeShop) [][]int64 {
	left := slices.Clone(s.Stock)
	fill := make([][]int64, len(s.Orders))
	for g := range s.Stock {
		for order, o := range s.Orders {
			if o.Grade != g {
				continue
			}
			fill[order] = make([]int64, len(s.Stock))
			for given := int64(0); given < o.Many; {
				if other := r.Intn(g + 1); left[other] > 0 {
					left[other]--
					fill[order][other]++
					given++
				}
			}
		}
	}
	return fill
}

// randomProof returns numbers of a proof, small ones or any.
func randomProof(r *rand.Rand, s api.GradeShop) []int64 {
	return randomNumbers(r, len(s.Stock), longs(s.Price[0], 5, api.MaxGradePrice)[r.Intn(3)])
}

// copied returns a shop that shares no memory with another one.
func copied(s api.GradeShop) api.GradeShop {
	return api.GradeShop{Stock: slices.Clone(s.Stock), Price: slices.Clone(s.Price), Orders: slices.Clone(s.Orders)}
}

// copiedFill returns a fill that shares no memory with another one.
func copiedFill(fill [][]int64) [][]int64 {
	out := slices.Clone(fill)
	for i, row := range out {
		out[i] = slices.Clone(row)
	}
	return out
}

// each calls f with the good shops, and with others that have up to so many orders, of up to so many sheets.
func each(t *testing.T, times, orders int, many int64, f func(r *rand.Rand, s api.GradeShop)) {
	t.Helper()
	r := rand.New(rand.NewSource(int64(times)))
	for i := range len(goodShops) + times {
		s := randomShop(r, orders, many)
		if i < len(goodShops) {
			s = copied(goodShops[i])
		}
		if isLarger(s, orders, many) {
			continue
		}
		f(r, s)
		if t.Failed() {
			t.Fatal(s)
		}
	}
}

// isLarger reports whether a shop has more orders, or one of more sheets.
func isLarger(s api.GradeShop, orders int, many int64) bool {
	asksMore := func(o api.GradeOrder) bool { return o.Many > many }
	return len(s.Orders) > orders || slices.ContainsFunc(s.Orders, asksMore)
}

// eachFilled calls f with shops of which all orders can be filled, and with how many it did so at the end.
func eachFilled(t *testing.T, times, orders int, many int64, f func(r *rand.Rand, s api.GradeShop)) {
	t.Helper()
	filled := 0
	each(t, times, orders, many, func(r *rand.Rand, s api.GradeShop) {
		if canFill(s) {
			filled++
			f(r, s)
		}
	})
	if filled < times/3 {
		t.Error("too few that can be filled", filled)
	}
}

// full and most are the greatest numbers of orders and of their sheets; few and small are numbers for which all fills can be listed.
const (
	full, most = api.MaxGradeOrders, int64(api.MaxGradeMany)
	few, small = 3, int64(4)
)

// told returns what a function tells of a shop of which all orders can be filled.
func told[T any](t *testing.T, f func(api.GradeShop) (T, api.Errno), s api.GradeShop) T {
	t.Helper()
	x, e := f(s)
	if e != api.OK {
		t.Fatal(s, e)
	}
	return x
}

func least(t *testing.T, s api.GradeShop) int64 {
	t.Helper()
	return told(t, grade.Least, s)
}

func spent(t *testing.T, s api.GradeShop) []int64 {
	t.Helper()
	return told(t, grade.Spent, s)
}

// worth returns what one more sheet of a grade is worth.
func worth(t *testing.T, s api.GradeShop, g int) int64 {
	t.Helper()
	return told(t, func(s api.GradeShop) (int64, api.Errno) { return grade.Worth(s, g) }, s)
}
