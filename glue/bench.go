package glue

import (
	"iter"

	"crossband/api"
)

// What panels take, and batches have.
const (
	minutes = iota
	spread
)

// amounts is how many minutes, and how much glue.
type amounts [2]int64

// with returns two amounts together.
func (a amounts) with(other amounts) amounts {
	for i, n := range other {
		a[i] += n
	}
	return a
}

// truth is a day and panels as they are at worst, or at best.
type truth struct {
	most  amounts   // what a batch can have
	takes []amounts // what each panel takes
}

// bench is the bench, with the panels that are laid on it.
type bench struct {
	truth
	sums [api.MaxGluePanels]amounts // what batches have; behind the last one there is nothing
	few  map[set]int                // how few batches sets of panels need, as far as it was asked for
}

// lay returns a bench with panels, or the error of the day or the panels.
func lay(d api.GlueDay, panels []api.GluePanel, sure bool) (*bench, api.Errno) {
	if e := CheckDay(d); e != api.OK {
		return nil, e
	}
	if e := CheckPanels(panels); e != api.OK {
		return nil, e
	}
	b := &bench{few: map[set]int{}}
	b.most = amounts{end(d.Works, !sure), d.Pot}
	for _, p := range panels {
		b.takes = grown(b.takes, amounts{end(p.Lay, sure), p.Spread})
	}
	return b, api.OK
}

// end returns the upper end of a range, or the lower one.
func end(r api.Range, upper bool) int64 {
	if upper {
		return r.Hi
	}
	return r.Lo
}

// layAll returns a bench with panels that can all be laid, or the error of the first one that cannot.
func layAll(d api.GlueDay, panels []api.GluePanel, sure bool) (*bench, api.Errno) {
	b, e := lay(d, panels, sure)
	if e != api.OK {
		return nil, e
	}
	for _, amount := range b.takes {
		if e := b.check(amount); e != api.OK {
			return nil, e
		}
	}
	return b, api.OK
}

// layBy returns a bench with panels in batches by a good row, or a good plan, or the error of it.
func layBy(d api.GlueDay, panels []api.GluePanel, sure bool, numbers []int, reach int) (*bench, api.Errno) {
	b, e := lay(d, panels, sure)
	switch {
	case e != api.OK:
		return nil, e
	case len(numbers) != len(b.takes):
		return nil, api.ErrEqual
	case !areNumbers(numbers, reach):
		return nil, api.ErrRule
	}
	b.fill(numbers)
	for _, sum := range b.sums {
		if e := b.check(sum); e != api.OK {
			return nil, e
		}
	}
	return b, api.OK
}

// check returns the error of a batch that has so much.
func (t truth) check(sum amounts) api.Errno {
	switch {
	case sum[minutes] > t.most[minutes]:
		return api.ErrGlue
	case sum[spread] > t.most[spread]:
		return api.ErrFull
	}
	return api.OK
}

// arePanels reports whether a list is strictly increasing, and of panels.
func (t truth) arePanels(list []int) bool {
	next := 0
	for _, panel := range list {
		if !within(next, len(t.takes)-1, panel) {
			return false
		}
		next = panel + 1
	}
	return true
}

// all returns the set of all panels.
func (t truth) all() set { return between(0, len(t.takes)-1) }

// sum returns what the panels of a set take together.
func (t truth) sum(s set) amounts {
	var sum amounts
	for _, panel := range s.list() {
		sum = sum.with(t.takes[panel])
	}
	return sum
}

// share reports whether the panels of a set share a batch.
func (t truth) share(s set) bool { return t.check(t.sum(s)) == api.OK }

// bound returns how many batches sums ask for.
func (t truth) bound() int {
	bound := int64(0)
	for i, n := range t.sum(t.all()) {
		bound = max(bound, (n+t.most[i]-1)/t.most[i])
	}
	return int(bound)
}

// apart yields the sets of panels that are apart, in the order of subsets.
func (t truth) apart() iter.Seq[set] {
	return func(yield func(set) bool) {
		for s := range t.all().subsets() {
			if noTwo(s, t.share) && !yield(s) {
				return
			}
		}
	}
}

// noTwo reports whether no two panels of a set share a batch.
func noTwo(s set, share func(set) bool) bool {
	panels := s.list()
	for i, panel := range panels {
		for _, other := range panels[:i] {
			if share(of(other, panel)) {
				return false
			}
		}
	}
	return true
}
