package grade

import (
	"cmp"
	"iter"
	"slices"

	"crossband/api"
)

// sheets is how many sheets there are of each grade; of grades that do not exist there are none.
type sheets [api.MaxGradeGrades]int64

// with returns sheets and others together.
func (s sheets) with(others sheets) sheets {
	for grade, n := range others {
		s[grade] += n
	}
	return s
}

// beyond returns by how many sheets of each grade there are more than others.
func (s sheets) beyond(others sheets) sheets {
	for grade, n := range others {
		s[grade] = max(0, s[grade]-n)
	}
	return s
}

// store is a store with its shop.
type store struct {
	api.GradeShop
	there  sheets // how many sheets there are
	wanted sheets // how many are ordered of each grade, or a better one, but for orders that are refused
}

// open returns a store with a shop, or the error of the shop.
func open(shop api.GradeShop) (*store, api.Errno) {
	if e := CheckShop(shop); e != api.OK {
		return nil, e
	}
	s := &store{GradeShop: shop}
	copy(s.there[:], s.Stock)
	s.count(nil)
	return s, api.OK
}

// openToFill returns a store with a shop of which all orders can be filled, or the error.
func openToFill(shop api.GradeShop) (*store, api.Errno) {
	s, e := open(shop)
	if e != api.OK {
		return nil, e
	}
	if !s.fillsWithout(nil) {
		return nil, api.ErrGrade
	}
	return s, api.OK
}

// count counts how many sheets are wanted of each grade if some orders are refused.
func (s *store) count(refused []int) {
	clear(s.wanted[:])
	for order, o := range s.Orders {
		if !slices.Contains(refused, order) {
			s.wanted[o.Grade] += o.Many
		}
	}
}

// isGrade reports whether there is such a grade.
func (s *store) isGrade(grade int) bool { return within(0, len(s.Stock)-1, grade) }

// isRoomFor reports whether there can be so many more sheets of each grade.
func (s *store) isRoomFor(more []int64) bool {
	for grade, n := range more {
		if !within(0, api.MaxGradeStock-s.there[grade], n) {
			return false
		}
	}
	return true
}

// upFrom yields the grades that an order of a grade can get, from its own one on up to the best one.
func upFrom(grade int) iter.Seq[int] {
	return func(yield func(int) bool) {
		for g := grade; g >= 0 && yield(g); g-- {
		}
	}
}

// all yields all grades, from the worst one on: those that an order of the worst one can get.
func (s *store) all() iter.Seq[int] { return upFrom(len(s.Stock) - 1) }

// short returns what is short up to a grade.
func (s *store) short(grade int) int64 {
	short := int64(0)
	for g := range upFrom(grade) {
		short += s.wanted[g] - s.there[g]
	}
	return short
}

// firstShort returns the first grade that is short, and whether any is.
func (s *store) firstShort() (int, bool) {
	asked := int64(0)
search:
	for grade := range s.Stock {
		asked += s.wanted[grade]
		lacking := asked
		for g := range upFrom(grade) {
			lacking -= s.there[g]
			if lacking <= 0 {
				continue search
			}
		}
		return grade, true
	}
	return 0, false
}

// spend returns what is spent if so many sheets are there, and whether all orders can be filled. From the worst grade on, the orders that are content with a grade get all that they can of it, and ask the next better one for the rest. So no right fill spends less of the grades up to any one.
func (s *store) spend(there sheets) (sheets, bool) {
	var spent sheets
	asked := int64(0)
	for grade := range s.all() {
		asked += s.wanted[grade]
		spent[grade] = min(asked, there[grade])
		asked -= spent[grade]
	}
	return spent, asked == 0
}

// cost returns what spent sheets cost.
func (s *store) cost(spent sheets) int64 {
	cost := int64(0)
	for grade, price := range s.Price {
		cost += price * spent[grade]
	}
	return cost
}

// least returns the least cost if so many more sheets are there.
func (s *store) least(more sheets) int64 {
	spent, _ := s.spend(s.there.with(more))
	return s.cost(spent)
}

// worth returns by how much one more sheet of a grade makes the least cost less.
func (s *store) worth(grade int) int64 {
	var one sheets
	one[grade] = 1
	return s.least(sheets{}) - s.least(one)
}

// worths returns what one more sheet of each grade is worth. They prove the least cost. If a grade has too few sheets, orders go on to better ones, up to one that has enough; the worth is by how much that one is dearer. So all grades that an order gets sheets of cost the same, with their worths, and better ones no less; and what is taken off for the Stock is of grades that are spent up.
func (s *store) worths() []int64 {
	var worths []int64
	for grade := range s.Stock {
		worths = grown(worths, s.worth(grade))
	}
	return worths
}

// prove returns what a proof proves.
func (s *store) prove(proof []int64) int64 {
	cost := func(grade int) int64 { return s.Price[grade] + proof[grade] }
	cheaper := func(grade, other int) int { return cmp.Compare(cost(grade), cost(other)) }
	proved := int64(0)
	for _, o := range s.Orders {
		proved += o.Many * cost(pick(upFrom(o.Grade), cheaper))
	}
	for grade, n := range proof {
		proved -= n * s.there[grade]
	}
	return proved
}

// fillsWithout reports whether all other orders can be filled if some are refused.
func (s *store) fillsWithout(refused []int) bool {
	s.count(refused)
	_, ok := s.spend(s.there)
	return ok
}

// refused returns the first one of the shortest lists of orders without which all others can be filled.
func (s *store) refused() []int { return shortest(len(s.Orders), s.fillsWithout) }

// isTooBad reports whether at a place the grade is not good enough for the order.
func (s *store) isTooBad(at place) bool { return at.grade > s.Orders[at.order].Grade }

// check returns the error of what is given.
func (s *store) check(g given) api.Errno {
	if g.sum(s.isTooBad) > 0 {
		return api.ErrGrade
	}
	for order, o := range s.Orders {
		if g.to(order) != o.Many {
			return api.ErrSum
		}
	}
	if g.spent().beyond(s.there) != (sheets{}) {
		return api.ErrOver
	}
	return api.OK
}

// fill returns what is given at the least cost: to each order sheets of its own grade, and then, from the worst grade on, sheets of the next better one for those that are not there. So just what is spent is given.
func (s *store) fill() given {
	g := given{}
	for order, o := range s.Orders {
		g.add(place{order, o.Grade}, o.Many)
	}
	for grade := range s.all() {
		over := g.spent().beyond(s.there)[grade]
		for order := range s.Orders {
			at := place{order, grade}
			many := min(over, g[at])
			g.improve(at, many)
			over -= many
		}
	}
	return g
}
