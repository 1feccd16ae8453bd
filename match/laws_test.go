package match_test

import (
	"math/rand"
	"reflect"
	"slices"
	"testing"

	"crossband/api"
	"crossband/match"
)

// TestProved is P11.10.
func TestProved(t *testing.T) {
	same, more := 0, 0
	each(t, 3000, full, func(r *rand.Rand, b api.MatchBook) {
		odd, few, sum := told(t, match.Odd, b), fewest(t, b), 0
		if len(odd)%2 != 0 {
			t.Error("odd", odd)
		}
		for _, part := range told(t, match.Parts, b) {
			inside := slices.DeleteFunc(figuresOf(b, part), func(figure int) bool { return !slices.Contains(odd, figure) })
			if len(inside)%2 != 0 {
				t.Error("odd", part, inside)
			}
			sum += max(1, len(inside)/2)
		}
		if few != sum {
			t.Error(few, sum)
		}
		for range 10 {
			all := randomRows(r, b)
			many, e := match.CheckRows(b, all)
			if many < few || e != api.OK {
				t.Error(all, many, e, few)
			}
			if many == few {
				same++
			} else {
				more++
			}
		}
	})
	if same < 2000 || more < 2000 {
		t.Error("too few of a sort", same, more)
	}
}

// TestEither is P11.11.
func TestEither(t *testing.T) {
	sorts := map[string]int{}
	each(t, 4000, full, func(_ *rand.Rand, b api.MatchBook) {
		odd, parts := told(t, match.Odd, b), told(t, match.Parts, b)
		if _, e := match.Ring(b); (e == api.OK) != (len(parts) == 1 && len(odd) == 0) {
			t.Error("ring", parts, odd, e)
		}
		one, e := match.One(b)
		if (e == api.OK) != (len(parts) == 1 && len(odd) <= 2) {
			t.Error("one", parts, odd, e)
		}
		if e != api.OK {
			sorts["neither"]++
			return
		}
		begin, end, f := match.CheckRow(b, one)
		switch {
		case f != api.OK || len(one) != len(b.Sheets):
			t.Error(one, f)
		case len(odd) == 0:
			sorts["ring"]++
			if begin != end || match.CheckRing(b, one) != api.OK {
				t.Error("ring", one)
			}
		default:
			sorts["row"]++
			if !slices.Equal(odd, of(min(begin, end), max(begin, end))) {
				t.Error(one, odd)
			}
		}
	})
	for _, sort := range []string{"neither", "ring", "row"} {
		if sorts[sort] < 500 {
			t.Error("too few of a sort", sorts)
		}
	}
}

// TestMissingAndMore is P11.12.
func TestMissingAndMore(t *testing.T) {
	sorts := map[int]int{}
	each(t, 2000, full, func(r *rand.Rand, b api.MatchBook) {
		few, want := fewest(t, b), fewest(t, b)
		if _, e := match.Ring(b); e == api.OK {
			want = 0
		}
		if missing := told(t, match.Missing, b); missing != want {
			t.Error(missing, want)
		}
		for range 5 {
			i, s := r.Intn(len(b.Sheets)+1), api.MatchSheet{Left: r.Intn(b.Figures), Right: r.Intn(b.Figures)}
			more := withSheets(b, slices.Insert(slices.Clone(b.Sheets), i, s))
			if len(more.Sheets) > full {
				return
			}
			n := fewest(t, more) - few
			sorts[n]++
			if n < -1 || n > 1 {
				t.Error(more, n)
			}
		}
	})
	for n := -1; n <= 1; n++ {
		if sorts[n] < 200 {
			t.Error("too few of a sort", sorts)
		}
	}
}

// TestTurnedRound is P11.13 for rows that are turned round.
func TestTurnedRound(t *testing.T) {
	sorts := map[api.Errno]int{}
	each(t, 3000, full, func(r *rand.Rand, b api.MatchBook) {
		for range 5 {
			row := spoilt(r, randomRow(r, b, sheetsOf(b)))
			begin, end, e := match.CheckRow(b, row)
			sorts[e]++
			if x, y, f := match.CheckRow(b, turnedRound(row)); x != end || y != begin || f != e {
				t.Error(row, begin, end, e, x, y, f)
			}
			if e, f := match.CheckRing(b, row), match.CheckRing(b, turnedRound(row)); e != f {
				t.Error("ring", row, e, f)
			}
			if e == api.OK && begin == end {
				sorts[-1]++
			}
		}
	})
	for _, e := range []api.Errno{-1, api.OK, api.ErrMatch, api.ErrHave} {
		if sorts[e] < 500 {
			t.Error("too few of a sort", sorts)
		}
	}
}

// turnedBook returns a book with some sheets turned, and which ones.
func turnedBook(r *rand.Rand, b api.MatchBook) (api.MatchBook, []bool) {
	out, turned := copied(b), make([]bool, len(b.Sheets))
	for i, s := range b.Sheets {
		if r.Intn(2) == 0 {
			out.Sheets[i], turned[i] = api.MatchSheet{Left: s.Right, Right: s.Left}, true
		}
	}
	return out, turned
}

// exchanged returns a row with Turned of the sheets that are turned exchanged.
func exchanged(row []api.MatchPlace, turned []bool) []api.MatchPlace {
	out := slices.Clone(row)
	for i, p := range out {
		if turned[p.Sheet] {
			out[i].Turned = 1 - p.Turned
		}
	}
	return out
}

// sheetsIn returns the sheets of a row.
func sheetsIn(row []api.MatchPlace) []int {
	var out []int
	for _, p := range row {
		out = append(out, p.Sheet)
	}
	return out
}

// TestTurnedSheets is P11.13 for sheets of the book that are turned: the same rows match, and chains and all numbers are the same.
func TestTurnedSheets(t *testing.T) {
	each(t, 2000, full, func(r *rand.Rand, b api.MatchBook) {
		other, turned := turnedBook(r, b)
		for call, f := range map[string]func(b api.MatchBook) (any, api.Errno){
			"Odd":     func(b api.MatchBook) (any, api.Errno) { return first(match.Odd(b)) },
			"Parts":   func(b api.MatchBook) (any, api.Errno) { return first(match.Parts(b)) },
			"Fewest":  func(b api.MatchBook) (any, api.Errno) { return first(match.Fewest(b)) },
			"Missing": func(b api.MatchBook) (any, api.Errno) { return first(match.Missing(b)) },
			"Joins":   func(b api.MatchBook) (any, api.Errno) { return first(match.Joins(b)) },
		} {
			x, e := f(b)
			y, g := f(other)
			if !reflect.DeepEqual(x, y) || e != g {
				t.Error(call, other, x, e, y, g)
			}
		}
		_, e := match.Ring(b)
		if _, f := match.Ring(other); f != e {
			t.Error("ring", other, e, f)
		}
		for range 5 {
			row := randomRow(r, b, sheetsOf(b))
			begin, end, e := match.CheckRow(b, row)
			if x, y, f := match.CheckRow(other, exchanged(row, turned)); x != begin || y != end || f != e {
				t.Error(other, row, begin, end, e, x, y, f)
			}
			from, to := r.Intn(b.Figures), r.Intn(b.Figures)
			chain, e := match.Chain(b, from, to)
			if same, f := match.Chain(other, from, to); !slices.Equal(exchanged(same, turned), chain) || f != e {
				t.Error("chain", other, from, to, chain, e, same, f)
			}
		}
	})
}

// TestTurnedOne is P11.13 for the first row of all sheets. The place that is less is the one that is not turned, so the row of the turned book may begin at the other edge of the same sheet; otherwise it has the same sheets, one after another.
func TestTurnedOne(t *testing.T) {
	sorts := map[string]int{}
	each(t, 4000, full, func(r *rand.Rand, b api.MatchBook) {
		other, turned := turnedBook(r, b)
		one, e := match.One(b)
		same, f := match.One(other)
		if e != api.OK || f != api.OK {
			if e != f {
				t.Error(other, e, f)
			}
			return
		}
		same = exchanged(same, turned)
		begin, _, _ := match.CheckRow(b, one)
		from, _, g := match.CheckRow(b, same)
		switch {
		case g != api.OK || len(same) != len(one) || same[0].Sheet != one[0].Sheet:
			t.Error(other, one, same, g)
		case begin != from:
			sorts["from the other edge"]++
		default:
			sorts["same"]++
			if !slices.Equal(sheetsIn(one), sheetsIn(same)) {
				t.Error(other, one, same)
			}
		}
	})
	if sorts["from the other edge"] < 100 || sorts["same"] < 500 {
		t.Error("too few of a sort", sorts)
	}
}

// TestJoined is P11.14.
func TestJoined(t *testing.T) {
	sorts := map[string]int{}
	each(t, 3000, full, func(_ *rand.Rand, b api.MatchBook) {
		joins, parts := told(t, match.Joins, b), told(t, match.Parts, b)
		if _, e := match.Ring(b); e == api.OK {
			sorts["ring"]++
			if len(joins) > 0 {
				t.Error("ring", joins)
			}
		}
		for _, part := range parts {
			for at, sheet := range part {
				rest := slices.Delete(slices.Clone(part), at, at+1)
				alone := api.MatchBook{Figures: b.Figures}
				for _, other := range rest {
					alone.Sheets = append(alone.Sheets, b.Sheets[other])
				}
				fallsApart := len(told(t, match.Parts, alone)) > 1
				hasLess := len(figuresOf(b, rest)) < len(figuresOf(b, part))
				isJoin := slices.Contains(joins, sheet)
				switch {
				case isJoin && !fallsApart && !hasLess:
					t.Error(sheet, part)
				case !isJoin && fallsApart, !isJoin && hasLess && !isLoop(b, sheet):
					t.Error("no join", sheet, part)
				case !isJoin:
					sorts["no join"]++
				case fallsApart:
					sorts["falls apart"]++
				default:
					sorts["a figure less"]++
				}
			}
		}
	})
	for _, sort := range []string{"ring", "no join", "falls apart", "a figure less"} {
		if sorts[sort] < 300 {
			t.Error("too few of a sort", sorts)
		}
	}
}

// TestChains is P11.15.
func TestChains(t *testing.T) {
	sorts := map[int]int{}
	each(t, 3000, full, func(_ *rand.Rand, b api.MatchBook) {
		for from := range b.Figures {
			for to := range from {
				chain, e := match.Chain(b, from, to)
				back, f := match.Chain(b, to, from)
				if len(chain) != len(back) || e != f {
					t.Error(from, to, chain, e, back, f)
				}
				if e != api.OK {
					continue
				}
				sorts[len(chain)]++
				begin, end, e := match.CheckRow(b, chain)
				if begin != from || end != to || e != api.OK {
					t.Error(from, to, chain, begin, end, e)
				}
				if through := figuresOf(b, sheetsIn(chain)); len(through) != len(chain)+1 {
					t.Error("twice", chain, through)
				}
			}
		}
	})
	for many, wanted := range of(0, 1000, 1000, 1000, 100, 10) {
		if sorts[many] < wanted {
			t.Error("too few of a sort", sorts)
		}
	}
}
