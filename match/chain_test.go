package match_test

import (
	"math"
	"slices"
	"testing"

	"crossband/api"
	"crossband/match"
)

// TestJoins is P11.8.
func TestJoins(t *testing.T) {
	for i, x := range known {
		if joins := told(t, match.Joins, x.b); !slices.Equal(joins, x.joins) {
			t.Error(i, joins)
		}
	}
	sorts := map[int]int{}
	eachOfAll(t, 4000, func(b api.MatchBook) {
		want := joinsByHand(b)
		sorts[len(want)]++
		if joins := told(t, match.Joins, b); !slices.Equal(joins, want) {
			t.Error(joins, want)
		}
	})
	for many := range 5 {
		if sorts[many] < 30 {
			t.Error("too few of a sort", sorts)
		}
	}
}

// TestChain is P11.9: the examples, each error, and which chain comes first.
func TestChain(t *testing.T) {
	for i, x := range []struct {
		b        api.MatchBook
		from, to int
		chain    []api.MatchPlace
		e        api.Errno
	}{
		{bookA(), 0, 3, row(2, 1, 3, 0), api.OK},
		{bookA(), 3, 0, row(3, 1, 2, 0), api.OK},
		{bookA(), 1, 1, nil, api.ErrArg},
		{bookB(), 0, 2, nil, api.ErrNone},
		{bookA(), 0, 1, straight(0), api.OK},
		{bookA(), 1, 0, row(0, 1), api.OK},
		{bookA(), 1, 3, straight(1, 3), api.OK},
		{bookA(), 3, 1, row(3, 1, 1, 1), api.OK},
		{bookA(), 0, 4, nil, api.ErrArg},
		{bookA(), 4, 0, nil, api.ErrArg},
		{bookA(), -1, 0, nil, api.ErrArg},
		{bookA(), 0, -1, nil, api.ErrArg},
		{bookA(), 4, 5, nil, api.ErrArg},
		{bookA(), 4, 4, nil, api.ErrArg},
		{bookA(), math.MaxInt, 0, nil, api.ErrArg},
		{bookA(), 0, math.MinInt, nil, api.ErrArg},
		{bookB(), 4, 0, nil, api.ErrNone}, // its only sheet has one figure
		{bookB(), 4, 4, nil, api.ErrArg},  // not a chain of that sheet
		{bookB(), 0, 5, nil, api.ErrArg},
		{bookC(), 0, 1, straight(0), api.OK},
		{bookC(), 1, 0, row(0, 1), api.OK}, // the lesser sheet, though it is turned
		{book(1), 0, 0, nil, api.ErrArg},
		{book(2), 0, 1, nil, api.ErrNone},
		{book(2, 1, 1), 0, 1, nil, api.ErrNone},
		{book(3, 0, 1), 0, 2, nil, api.ErrNone},
		{book(3, 0, 1), 2, 0, nil, api.ErrNone},
		{book(3, 0, 1, 1, 2, 2, 0), 0, 2, row(2, 1), api.OK}, // not the first row, but the shortest
		{book(4, 0, 1, 0, 2, 1, 3, 2, 3), 0, 3, straight(0, 2), api.OK},
		{book(4, 0, 2, 0, 1, 1, 3, 2, 3), 0, 3, straight(0, 3), api.OK},
		{book(4, 1, 3, 2, 3, 0, 2, 0, 1), 0, 3, straight(2, 1), api.OK},
		{book(4, 1, 3, 2, 3, 0, 2, 0, 1), 3, 0, row(0, 1, 3, 1), api.OK},
		{book(4, 0, 0, 1, 1, 1, 0, 0, 1), 0, 1, row(2, 1), api.OK},
		{book(4, 0, 1, 1, 0, 1, 2, 0, 0), 0, 2, straight(0, 2), api.OK},
		{book(5, 0, 1, 0, 2, 0, 3, 0, 4), 1, 4, row(0, 1, 3, 0), api.OK},
		{book(6, 0, 1, 2, 3, 4, 5, 1, 2, 3, 4), 0, 5, straight(0, 3, 1, 4, 2), api.OK},
		{book(6, 0, 1, 2, 3, 4, 5, 1, 2, 3, 4), 4, 1, row(4, 1, 1, 1, 3, 1), api.OK},
		{book(6, slices.Repeat(of(5, 0), 10)...), 0, 5, row(0, 1), api.OK},
		{book(6, slices.Repeat(of(5, 0), 10)...), 0, 4, nil, api.ErrNone},
		{book(6, 0, 1, 1, 2, 2, 3, 3, 4, 4, 5, 5, 0), 0, 3, straight(0, 1, 2), api.OK},
		{book(6, 5, 0, 4, 5, 3, 4, 2, 3, 1, 2, 0, 1), 0, 3, row(0, 1, 1, 1, 2, 1), api.OK},
	} {
		if chain, e := match.Chain(x.b, x.from, x.to); !slices.Equal(chain, x.chain) || e != x.e {
			t.Error(i, chain, e)
		}
	}
}

// TestChainOfAll holds P11.9 against all rows that match, for all two figures and some that are none.
func TestChainOfAll(t *testing.T) {
	sorts := map[int]int{}
	eachOfAll(t, 800, func(b api.MatchBook) {
		for from := -1; from <= b.Figures; from++ {
			for to := -1; to <= b.Figures; to++ {
				var want []api.MatchPlace
				fault := api.ErrArg
				if min(from, to) >= 0 && max(from, to) < b.Figures && from != to {
					want, fault = chainByHand(b, from, to), api.OK
					sorts[len(want)]++
					if want == nil {
						fault = api.ErrNone
					}
				}
				if chain, e := match.Chain(b, from, to); !slices.Equal(chain, want) || e != fault {
					t.Error(from, to, chain, e, want, fault)
				}
			}
		}
	})
	for many, wanted := range of(1000, 1000, 1000, 1000, 50, 10) {
		if sorts[many] < wanted {
			t.Error("too few of a sort", sorts)
		}
	}
}
