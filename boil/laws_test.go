package boil_test

import (
	"math/rand"
	"reflect"
	"slices"
	"testing"

	"crossband/api"
	"crossband/boil"
)

// randomExplanation returns an explanation: one of each panel's causes, or one that is near to a smallest one, or with more causes.
func randomExplanation(r *rand.Rand, list []api.BoilTrial, all [][]int) []int {
	var causes []int
	if r.Intn(2) == 0 {
		causes = slices.Clone(all[r.Intn(len(all))])
		if len(causes) > 0 {
			i := r.Intn(len(causes))
			causes = slices.Delete(causes, i, i+1)
		}
	}
	for _, i := range r.Perm(len(list)) {
		if open := openOf(list, list[i].Panel); list[i].Failed && !failsBy(list[i].Panel, causes) {
			causes = append(causes, open[r.Intn(len(open))])
		}
	}
	clear := clearByHand(list)
	for range r.Intn(3) {
		if cause := r.Intn(15); !slices.Contains(clear, cause) {
			causes = append(causes, cause)
		}
	}
	slices.Sort(causes)
	return slices.Compact(causes)
}

// randomApart returns trials that are apart.
func randomApart(r *rand.Rand, list []api.BoilTrial) []int {
	var apart []int
	for _, i := range r.Perm(len(list))[:r.Intn(len(list)+1)] {
		more := append(slices.Clone(apart), i)
		slices.Sort(more)
		if faultOfApart(list, more) == api.OK {
			apart = more
		}
	}
	return apart
}

// TestProved is P10.10.
func TestProved(t *testing.T) {
	few, many, equal, less := 0, 0, 0, 0
	eachExplained(t, 1500, full, func(r *rand.Rand, list []api.BoilTrial, all [][]int) {
		fewest := told(t, boil.Fewest, list)
		for range 10 {
			causes, apart := randomExplanation(r, list, all), randomApart(r, list)
			if e, f := boil.CheckCauses(list, causes), boil.CheckApart(list, apart); e != api.OK || f != api.OK {
				t.Error(causes, e, apart, f)
			}
			if len(causes) < fewest || len(apart) > fewest {
				t.Error(causes, apart, fewest)
			}
			if len(causes) == fewest {
				few++
			} else {
				many++
			}
		}
		switch longest := told(t, boil.Apart, list); {
		case len(longest) > fewest:
			t.Error("the longest one", longest, fewest)
		case len(longest) == fewest:
			equal++
		default:
			less++
		}
	})
	if few < 1000 || many < 1000 || equal < 200 || less < 40 {
		t.Error("too few of a sort", few, many, equal, less)
	}
}

// TestEither is P10.11.
func TestEither(t *testing.T) {
	sorts := map[bool]int{}
	each(t, 3000, full, func(_ *rand.Rand, list []api.BoilTrial) {
		clear, unclear := told(t, boil.Clear, list), false
		for _, x := range list {
			isClear := func(cause int) bool { return slices.Contains(clear, cause) }
			unclear = unclear || x.Failed && !slices.ContainsFunc(causesByHand(x.Panel), func(cause int) bool { return !isClear(cause) })
		}
		sorts[unclear]++
		_, e := boil.All(list)
		n, f := boil.Unclear(list)
		if (e == api.ErrBoil) != unclear || (f == api.OK) != unclear || e != api.OK && e != api.ErrBoil {
			t.Error(e, n, f)
		}
		var rest []int // all causes that are not clear: they explain all that can be explained
		for cause := range 15 {
			if !slices.Contains(clear, cause) {
				rest = append(rest, cause)
			}
		}
		if g := boil.CheckCauses(list, rest); g != e {
			t.Error(rest, g, e)
		}
	})
	if sorts[true] < 300 || sorts[false] < 300 {
		t.Error("too few of a sort", sorts)
	}
}

// hasAlone reports whether some panel that failed has, of some causes, one alone.
func hasAlone(list []api.BoilTrial, causes []int, cause int) bool {
	return slices.ContainsFunc(list, func(x api.BoilTrial) bool {
		others := slices.DeleteFunc(slices.Clone(causes), func(c int) bool { return c == cause })
		return x.Failed && has(x.Panel, cause) && !failsBy(x.Panel, others)
	})
}

// TestOneOfAll is P10.12.
func TestOneOfAll(t *testing.T) {
	one, greater := 0, 0
	eachExplained(t, 1500, full, func(r *rand.Rand, list []api.BoilTrial, all [][]int) {
		clear := told(t, boil.Clear, list)
		for _, causes := range all {
			if e := boil.CheckCauses(list, causes); e != api.OK {
				t.Error(causes, e)
			}
			for _, cause := range causes {
				if slices.Contains(clear, cause) || !hasAlone(list, causes, cause) {
					t.Error(causes, cause)
				}
			}
		}
		for range 10 {
			causes := randomExplanation(r, list, all)
			isOne := slices.ContainsFunc(all, func(other []int) bool { return slices.Equal(causes, other) })
			if isOne != (len(causes) == len(all[0])) {
				t.Error(causes, all)
			}
			if isOne {
				one++
			} else {
				greater++
			}
		}
	})
	if one < 1000 || greater < 1000 {
		t.Error("too few of a sort", one, greater)
	}
}

// TestMore is P10.13.
func TestMore(t *testing.T) {
	sorts := map[string]int{}
	eachExplained(t, 3000, full-1, func(r *rand.Rand, list []api.BoilTrial, all [][]int) {
		one := boiled(randomPanel(r, 5), r.Intn(2) == 0)
		more := slices.Insert(slices.Clone(list), r.Intn(len(list)+1), one)
		m, e := boil.Fewest(more)
		switch n := len(all[0]); {
		case e != api.OK && one.Failed && len(openOf(list, one.Panel)) > 0:
			t.Error("still explained", one, e)
		case e != api.OK:
			sorts["none"]++
		case m < n:
			t.Error(one, m, n)
		case one.Failed && m > n+1:
			t.Error("failed", one, m, n)
		case one.Failed && m > n:
			sorts["one more"]++
		case one.Failed:
			sorts["no more"]++
		case m > n+1:
			sorts["held: several more"]++
		default:
			sorts["held"]++
		}
	})
	for _, sort := range []string{"none", "one more", "no more", "held: several more", "held"} {
		if sorts[sort] < 5 {
			t.Error("too few of a sort", sorts)
		}
	}
}

// parted returns the explanations by which a panel fails, and the other ones.
func parted(all [][]int, p api.BoilPanel) (by, not [][]int) {
	for _, causes := range all {
		if failsBy(p, causes) {
			by = append(by, causes)
		} else {
			not = append(not, causes)
		}
	}
	return by, not
}

// TestKnown is P10.14.
func TestKnown(t *testing.T) {
	sorts := map[string]int{}
	eachExplained(t, 300, full-1, func(r *rand.Rand, list []api.BoilTrial, all [][]int) {
		again := func(p api.BoilPanel, failed bool, want [][]int) {
			more := slices.Insert(slices.Clone(list), r.Intn(len(list)+1), boiled(p, failed))
			if got, e := boil.All(more); !equal(got, want) || e != api.OK {
				t.Error(p, failed, got, e, want)
			}
		}
		for range 20 {
			p := randomPanel(r, 5)
			by, not := parted(all, p)
			if n := fails(t, list, p); n != len(by) {
				t.Error(p, n, by)
			}
			if len(by) > 0 {
				again(p, true, by)
			}
			if len(not) > 0 {
				again(p, false, not)
			}
			switch {
			case len(not) == 0:
				sorts["by all"]++
			case len(by) == 0:
				sorts["by none"]++
			default:
				sorts["by some"]++
			}
		}
	})
	for _, sort := range []string{"by all", "by none", "by some"} {
		if sorts[sort] < 200 {
			t.Error("too few of a sort", sorts)
		}
	}
}

// TestNextParts: what the next panel tells is how many explanations are no longer there at least, whether it fails or holds (P10.9, P10.14).
func TestNextParts(t *testing.T) {
	parts := 0
	eachExplained(t, 500, full-1, func(_ *rand.Rand, list []api.BoilTrial, all [][]int) {
		p, n, e := boil.Next(list)
		if e != api.OK {
			return
		}
		parts++
		bad := told(t, boil.All, with(list, boiled(p, true)))
		good := told(t, boil.All, with(list, boiled(p, false)))
		if len(bad)+len(good) != len(all) || min(len(bad), len(good)) != n || n < 1 {
			t.Error(p, n, bad, good)
		}
	})
	if parts < 100 {
		t.Error("too few", parts)
	}
}

// sameKnown reports whether two lists of trials tell the same, but for the numbers of trials.
func sameKnown(t *testing.T, r *rand.Rand, list, other []api.BoilTrial) {
	t.Helper()
	o := otherOf(r, other)
	for call, f := range map[string]func(list []api.BoilTrial) (any, api.Errno){
		"Clear":  func(list []api.BoilTrial) (any, api.Errno) { return first(boil.Clear(list)) },
		"All":    func(list []api.BoilTrial) (any, api.Errno) { return first(boil.All(list)) },
		"Fewest": func(list []api.BoilTrial) (any, api.Errno) { return first(boil.Fewest(list)) },
		"Blame":  func(list []api.BoilTrial) (any, api.Errno) { return first(boil.Blame(list, o.cause)) },
		"Fails":  func(list []api.BoilTrial) (any, api.Errno) { return first(boil.Fails(list, o.panel)) },
		"CheckCauses": func(list []api.BoilTrial) (any, api.Errno) {
			return nil, boil.CheckCauses(list, o.causes)
		},
		"Next": func(list []api.BoilTrial) (any, api.Errno) {
			p, n, e := boil.Next(list)
			return [...]any{p, n}, e
		},
		"Unclear": func(list []api.BoilTrial) (any, api.Errno) {
			_, e := boil.Unclear(list)
			return nil, e
		},
	} {
		x, e := f(list)
		y, g := f(other)
		if !reflect.DeepEqual(x, y) || e != g {
			t.Error(call, other, x, e, y, g)
		}
	}
}

// TestTurned is P10.15 for trials in another order.
func TestTurned(t *testing.T) {
	each(t, 1000, full, func(r *rand.Rand, list []api.BoilTrial) {
		order := r.Perm(len(list))
		turned := make([]api.BoilTrial, len(list))
		for i, at := range order {
			turned[at] = list[i]
		}
		sameKnown(t, r, list, turned)
		apart := told(t, boil.Apart, list)
		if other := told(t, boil.Apart, turned); len(other) != len(apart) {
			t.Error("apart", turned, apart, other)
		}
		for _, trials := range [][]int{apart, randomApart(r, list), members(r.Intn(1 << len(list)))} {
			var others []int
			for _, i := range trials {
				others = append(others, order[i])
			}
			slices.Sort(others)
			if e, f := boil.CheckApart(list, trials), boil.CheckApart(turned, others); e != f {
				t.Error("apart", turned, trials, e, others, f)
			}
		}
	})
}

// TestTwice is P10.15 for trials that are there twice.
func TestTwice(t *testing.T) {
	longer := 0
	each(t, 2000, full/2, func(r *rand.Rand, list []api.BoilTrial) {
		twice := slices.Clone(list)
		for _, x := range list {
			if r.Intn(2) == 0 {
				twice = slices.Insert(twice, r.Intn(len(twice)+1), x)
			}
		}
		sameKnown(t, r, list, twice)
		apart, other := told(t, boil.Apart, list), told(t, boil.Apart, twice)
		switch {
		case len(other) < len(apart):
			t.Error("apart", twice, apart, other)
		case len(other) > len(apart) && unclearByHand(list) < 0: // only a trial all of whose causes are clear is apart from itself
			t.Error("apart", twice, apart, other)
		case len(other) > len(apart):
			longer++
		}
	})
	if longer < 20 {
		t.Error("too few", longer)
	}
}

// TestExchanged is P10.15 for mixes that become openings, and openings that become mixes.
func TestExchanged(t *testing.T) {
	several := 0
	eachExplained(t, 1500, full, func(r *rand.Rand, list []api.BoilTrial, all [][]int) {
		other := slices.Clone(list)
		for i, x := range list {
			other[i].Panel = panel(x.Panel.Opening, x.Panel.Mix, x.Panel.Hour)
		}
		want := lists()
		for _, causes := range all {
			want = append(want, exchanged(causes))
		}
		slices.SortFunc(want, slices.Compare[[]int])
		if got := told(t, boil.All, other); !equal(got, want) || len(got) != len(all) {
			t.Error(other, got, want)
		}
		if clear := told(t, boil.Clear, other); !slices.Equal(clear, exchanged(told(t, boil.Clear, list))) {
			t.Error(other, clear)
		}
		if a, b := told(t, boil.Apart, list), told(t, boil.Apart, other); !slices.Equal(a, b) {
			t.Error(other, a, b)
		}
		if len(all) > 1 {
			several++
		}
	})
	if several < 300 {
		t.Error("too few", several)
	}
}

// exchanged returns causes with those of mixes in the place of those of openings.
func exchanged(causes []int) []int {
	var out []int
	for _, cause := range causes {
		if cause < 10 {
			cause = (cause + 5) % 10
		}
		out = append(out, cause)
	}
	slices.Sort(out)
	return out
}
