package glue

import (
	"iter"

	"crossband/api"
)

// fill puts the first panels into batches, by their numbers.
func (b *bench) fill(numbers []int) {
	clear(b.sums[:])
	for panel, batch := range numbers {
		b.sums[batch] = b.sums[batch].with(b.takes[panel])
	}
}

// used returns how many batches there are: each panel takes something, so they are those that have something.
func (b *bench) used() int {
	for batch, sum := range b.sums {
		if sum == (amounts{}) {
			return batch
		}
	}
	return len(b.sums)
}

// spares returns what the batches spare.
func (b *bench) spares() amounts {
	spares := b.most
	for _, sum := range b.sums {
		for i, n := range sum {
			spares[i] = min(spares[i], b.most[i]-n)
		}
	}
	return spares
}

// first returns the first good list of numbers, with such a reach, that has at most so many batches; there is one. Each panel comes to the first batch that can have it; if there is none, the one before it goes on to its next batch.
func (b *bench) first(reach, batches int) []int {
	var numbers []int
	least := 0 // where the next panel can come to
search:
	for len(numbers) < len(b.takes) {
		b.fill(numbers)
		used := b.used()
		for batch := max(least, used-reach); batch < min(used+1, batches); batch++ {
			if b.check(b.sums[batch].with(b.takes[len(numbers)])) == api.OK {
				numbers, least = grown(numbers, batch), 0
				continue search
			}
		}
		last := len(numbers) - 1
		numbers, least = numbers[:last], numbers[last]+1
	}
	return numbers
}

// row returns the best row: the first good one. In it each batch goes on as long as it can, so no good row has fewer batches up to any panel.
func (b *bench) row() []int { return b.first(reachOfRow, len(b.takes)) }

// marks returns the panels with which the batches of the best row begin: they did not fit into the batch before.
func (b *bench) marks() []int {
	var marks []int
	for panel, batch := range b.row() {
		if batch == len(marks) {
			marks = grown(marks, panel)
		}
	}
	return marks
}

// plan returns the best plan.
func (b *bench) plan() []int {
	b.gather()
	return b.first(reachOfPlan, b.fewest(b.all()))
}

// gather keeps the sets of panels that one batch is enough for.
func (b *bench) gather() {
	for s := range b.all().subsets() {
		b.few[s] = 1
	}
	for s := range b.few {
		if !b.share(s) {
			delete(b.few, s)
		}
	}
	b.few[set{}] = 0
}

// batches yields the sets that can be the batch of the first panel of a set, with only panels of it.
func (b *bench) batches(s set) iter.Seq[set] {
	return func(yield func(set) bool) {
		for t := range s.subsets() {
			if !t.meets(s.first()) {
				return
			}
			if b.few[t] == 1 && !yield(t) {
				return
			}
		}
	}
}

// fewest returns how few batches a set of panels needs. Each panel can be laid, so there is a batch for the first one.
func (b *bench) fewest(s set) int {
	if n, ok := b.few[s]; ok {
		return n
	}
	left := func(t set) int { return b.fewest(s.without(t)) }
	best := pick(b.batches(s), func(t, u set) bool { return left(t) < left(u) })
	n := left(best) + 1
	b.few[s] = n
	return n
}
