package steam_test

import (
	"math/rand"
	"slices"
	"testing"

	"crossband/api"
)

// TestTurned is P3.10 for hours that are counted back.
func TestTurned(t *testing.T) {
	eachLarge(t, 500, func(_ *rand.Rand, y api.SteamYard) {
		back := api.SteamYard{Load: y.Load}
		for _, log := range y.Logs {
			back.Logs = append(back.Logs, to(100-log.Hi, 100-log.Lo))
		}
		if fewest(t, back) != fewest(t, y) {
			t.Error("fewest", fewest(t, back), fewest(t, y))
		}
		if got, want := early(t, back), countedBack(late(t, y)); !slices.Equal(got, want) {
			t.Error("early", got, want)
		}
		if got, want := late(t, back), countedBack(early(t, y)); !slices.Equal(got, want) {
			t.Error("late", got, want)
		}
	})
}

// TestLater is P3.10 for ranges that are as much later.
func TestLater(t *testing.T) {
	moved := 0
	eachLarge(t, 500, func(r *rand.Rand, y api.SteamYard) {
		room := int64(100)
		for _, log := range y.Logs {
			room = min(room, 100-log.Hi)
		}
		by := r.Int63n(room + 1)
		after := api.SteamYard{Load: y.Load}
		for _, log := range y.Logs {
			after.Logs = append(after.Logs, to(log.Lo+by, log.Hi+by))
		}
		if by > 0 {
			moved++
		}
		if fewest(t, after) != fewest(t, y) {
			t.Error("fewest", fewest(t, after), fewest(t, y))
		}
		if got, want := early(t, after), later(early(t, y), by); !slices.Equal(got, want) {
			t.Error("early", got, want)
		}
		if got, want := late(t, after), later(late(t, y), by); !slices.Equal(got, want) {
			t.Error("late", got, want)
		}
	})
	if moved < 100 {
		t.Error("too few of a sort", moved)
	}
}

// TestMore is P3.11: one more log, wider ranges, more logs in a load.
func TestMore(t *testing.T) {
	same, more := 0, 0
	eachLarge(t, 500, func(r *rand.Rand, y api.SteamYard) {
		n := fewest(t, y)
		if len(y.Logs) < api.MaxSteamLogs {
			with := api.SteamYard{Load: y.Load, Logs: append(slices.Clone(y.Logs), randomLog(r, 100, 12))}
			switch got := fewest(t, with); got {
			case n:
				same++
			case n + 1:
				more++
			default:
				t.Error("one more log", with, got, n)
			}
		}
		wide := api.SteamYard{Load: y.Load}
		for _, log := range y.Logs {
			wide.Logs = append(wide.Logs, to(max(0, log.Lo-r.Int63n(3)), min(100, log.Hi+r.Int63n(3))))
		}
		if got := fewest(t, wide); got > n {
			t.Error("wider", wide, got, n)
		}
		for load := y.Load + 1; load <= api.MaxSteamLogs; load++ {
			got := fewest(t, api.SteamYard{Load: load, Logs: y.Logs})
			if got > n {
				t.Error("more in a load", load, got, n)
			}
			n = got
		}
	})
	if same < 50 || more < 50 {
		t.Error("too few of a sort", same, more)
	}
}

// TestOrder: in whichever order the logs come, the loads stay.
func TestOrder(t *testing.T) {
	eachLarge(t, 300, func(r *rand.Rand, y api.SteamYard) {
		mixed := part(y, r.Perm(len(y.Logs)))
		if fewest(t, mixed) != fewest(t, y) || !slices.Equal(early(t, mixed), early(t, y)) || !slices.Equal(late(t, mixed), late(t, y)) {
			t.Error(mixed)
		}
		proved(t, mixed)
	})
}

// TestApart is P3.13: two yards, one before the other, need as many loads together as each by itself.
func TestApart(t *testing.T) {
	r := rand.New(rand.NewSource(13))
	for range 500 {
		x, y := randomYard(r, 4, 5, 40, 12), randomYard(r, 4, 5, 40, 12)
		y.Load = x.Load
		first := int64(0) // the first hour behind those of x
		for _, log := range x.Logs {
			first = max(first, log.Hi+1)
		}
		both := api.SteamYard{Load: x.Load, Logs: slices.Clone(x.Logs)}
		for _, log := range y.Logs {
			both.Logs = append(both.Logs, to(log.Lo+first, log.Hi+first))
		}
		if n := fewest(t, both); n != fewest(t, x)+fewest(t, y) {
			t.Fatal(x, y, n)
		}
		if got, want := early(t, both), append(early(t, x), later(early(t, y), first)...); !slices.Equal(got, want) {
			t.Fatal(x, y, got, want)
		}
	}
}

// apart reports whether no two of some logs have a common hour.
func apart(y api.SteamYard, logs []int) bool {
	for i, a := range logs {
		for _, b := range logs[:i] {
			if y.Logs[a].Lo <= y.Logs[b].Hi && y.Logs[b].Lo <= y.Logs[a].Hi {
				return false
			}
		}
	}
	return true
}

// TestAlone is P3.14.
func TestAlone(t *testing.T) {
	eachLarge(t, 200, func(_ *rand.Rand, y api.SteamYard) {
		y.Load = 1
		if n := fewest(t, y); n != int64(len(y.Logs)) {
			t.Error("one in a load", n)
		}
		most := 0
		for _, logs := range subsets(len(y.Logs)) {
			if len(logs) > most && apart(y, logs) {
				most = len(logs)
			}
		}
		for load := max(1, int64(len(y.Logs))); load <= api.MaxSteamLogs; load++ {
			y.Load = load
			if n := fewest(t, y); n != int64(most) {
				t.Error("as many as there are", load, n, most)
			}
		}
	})
}
