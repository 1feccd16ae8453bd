package grade

// place is what an order gets of a grade.
type place struct {
	order, grade int
}

// given is how many sheets are given at each place. Where nothing is given there is no place.
type given map[place]int64

// read returns what a fill gives.
func read(fill [][]int64) given {
	g := given{}
	for order, row := range fill {
		for grade, many := range row {
			g.add(place{order, grade}, many)
		}
	}
	return g
}

// add gives so many more sheets at a place.
func (g given) add(at place, many int64) {
	g[at] += many
	if g[at] == 0 {
		delete(g, at)
	}
}

// improve gives an order so many sheets of the next better grade, for as many at a place.
func (g given) improve(at place, many int64) {
	g.add(at, -many)
	g.add(place{at.order, at.grade - 1}, many)
}

// sum returns how many sheets are given at all places that are meant.
func (g given) sum(isMeant func(place) bool) int64 {
	sum := int64(0)
	for at, many := range g {
		if isMeant(at) {
			sum += many
		}
	}
	return sum
}

// to returns how many sheets an order gets.
func (g given) to(order int) int64 {
	return g.sum(func(at place) bool { return at.order == order })
}

// spent returns how many sheets of each grade are given.
func (g given) spent() sheets {
	var spent sheets
	for grade := range spent {
		spent[grade] = g.sum(func(at place) bool { return at.grade == grade })
	}
	return spent
}

// fill returns what each order gets, as a fill of so many orders and grades.
func (g given) fill(orders, grades int) [][]int64 {
	fill := make([][]int64, orders)
	for order := range fill {
		fill[order] = make([]int64, grades)
	}
	for at, many := range g {
		fill[at.order][at.grade] = many
	}
	return fill
}
