package seam

import (
	"iter"
	"slices"
)

// tier is a layer, joined by an order, with the best tier of the next layer behind it.
type tier struct {
	order  []int
	seams  []int64
	worth  int64 // the meetings of this layer and all behind it, or their distance
	behind *tier // nil for the last layer
}

// orders returns the orders of a tier and all behind it.
func (t tier) orders() [][]int {
	list := [][]int{t.order}
	for next := t.behind; next != nil; next = next.behind {
		list = grown(list, next.order)
	}
	return list
}

// aim is what orders are looked for.
type aim struct {
	last   int64                                        // the worth of a last layer
	before func(seams, next []int64, worth int64) int64 // the worth of a tier, with the seams and the worth of the one behind it
	better func(worth, other int64) bool
}

// fewestMeetings is the aim that as few seams meet as can be.
func fewestMeetings() aim {
	return aim{
		last:   0,
		before: func(seams, next []int64, worth int64) int64 { return worth + shared(seams, next) },
		better: func(worth, other int64) bool { return worth < other },
	}
}

// farthest is the aim that seams are as far apart as can be.
func (b *bench) farthest() aim {
	return aim{
		last:   width(b.Layers[0]),
		before: gap,
		better: func(worth, other int64) bool { return worth > other },
	}
}

func (a aim) isBetter(t, u tier) bool { return a.better(t.worth, u.worth) }

// best returns the first of the best tiers of the first layer. What is best behind a tier depends on its own order only, so each layer is looked at once, from the last one on.
func (b *bench) best(a aim) tier {
	var behind []tier
	for layer, strips := range slices.Backward(b.Layers) {
		var tiers []tier
		for order := range orders(len(strips)) {
			tiers = append(tiers, a.tier(order, b.widths[layer].seams(order), behind))
		}
		behind = tiers
	}
	first, _ := pick(slices.Values(behind), a.isBetter)
	return first
}

// tier returns a layer, joined by an order, with the first of the best tiers behind it.
func (a aim) tier(order []int, seams []int64, behind []tier) tier {
	t, ok := pick(a.ways(order, seams, behind), a.isBetter)
	if !ok {
		return tier{order: order, seams: seams, worth: a.last}
	}
	return t
}

// ways yields a layer, joined by an order, with each of some tiers behind it.
func (a aim) ways(order []int, seams []int64, behind []tier) iter.Seq[tier] {
	return func(yield func(tier) bool) {
		for i := range behind {
			worth := a.before(seams, behind[i].seams, behind[i].worth)
			if !yield(tier{order, seams, worth, &behind[i]}) {
				return
			}
		}
	}
}

// shared returns how many seams two layers share.
func shared(seams, next []int64) int64 {
	many := int64(0)
	for _, at := range seams {
		if slices.Contains(next, at) {
			many++
		}
	}
	return many
}

// gap returns how far the nearest seams of two layers are apart, but not more than most.
func gap(seams, next []int64, most int64) int64 {
	for _, at := range seams {
		for _, other := range next {
			most = min(most, max(at-other, other-at))
		}
	}
	return most
}
