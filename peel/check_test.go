package peel_test

import (
	"math"
	"reflect"
	"testing"

	"crossband/api"
	"crossband/peel"
)

// badLogs are logs that are not valid, with their errors; of several errors the one named first (R1).
var badLogs = []struct {
	name string
	l    api.PeelLog
	e    api.Errno
}{
	{"nothing", api.PeelLog{}, api.ErrMany},
	{"empty", api.PeelLog{At: longs(), Edges: edges()}, api.ErrMany},
	{"one place", log(longs(0), 0, 0), api.ErrMany},
	{"nine places", log(longs(0, 1, 2, 3, 4, 5, 6, 7, 8), make([]int64, 18)...), api.ErrMany},
	{"no places, with edges", log(nil, 0, 1, 0, 1), api.ErrMany},
	{"too few, and no edges, out of range", log(longs(-1)), api.ErrMany},
	{"fewer edges", log(longs(0, 1), 0, 0), api.ErrEqual},
	{"no edges", log(longs(0, 1)), api.ErrEqual},
	{"more edges", log(longs(0, 1), 0, 0, 0, 0, 0, 0), api.ErrEqual},
	{"fewer edges, out of range", log(longs(-1, 1), 1, 0), api.ErrEqual},
	{"place below 0", log(longs(-1, 1), 0, 0, 0, 0), api.ErrRange},
	{"place above 100", log(longs(0, 101), 0, 0, 0, 0), api.ErrRange},
	{"place is the least number", log(longs(0, math.MinInt64), 0, 0, 0, 0), api.ErrRange},
	{"range upside down", log(longs(0, 1), 0, 0, 1, 0), api.ErrRange},
	{"low edge too low", log(longs(0, 1), -1001, 0, 0, 0), api.ErrRange},
	{"high edge too low", log(longs(0, 1), -1002, -1001, 0, 0), api.ErrRange},
	{"high edge too high", log(longs(0, 1), 0, 0, 0, 1001), api.ErrRange},
	{"low edge too high", log(longs(0, 1), 0, 0, 1001, 1002), api.ErrRange},
	{"edges are the outermost numbers", log(longs(0, 1), 0, 0, math.MinInt64, math.MaxInt64), api.ErrRange},
	{"same place, last edges bad", log(longs(1, 1), 0, 0, 1, 0), api.ErrRange},
	{"backwards, last place bad", log(longs(2, 1, 101), 0, 0, 0, 0, 0, 0), api.ErrRange},
	{"same place", log(longs(1, 1), 0, 0, 0, 0), api.ErrRule},
	{"backwards", log(longs(1, 0), 0, 0, 0, 0), api.ErrRule},
	{"same place at the end", log(longs(0, 1, 1), 0, 0, 0, 0, 0, 0), api.ErrRule},
}

var goodLogs = []api.PeelLog{
	logA(),
	logB(),
	log(longs(0, 100), -1000, 1000, -1000, -1000),
	log(longs(99, 100), 1000, 1000, 0, 0),
	log(longs(0, 1, 2, 3, 4, 5, 6, 100), -1000, 1000, 0, 0, 0, 0, 0, 0, 0, 0, 0, 0, 0, 0, 1000, 1000),
}

// TestCheckLog is P1.1 for logs.
func TestCheckLog(t *testing.T) {
	for _, l := range goodLogs {
		if e := peel.CheckLog(l); e != api.OK {
			t.Error(l, e)
		}
	}
	for _, x := range badLogs {
		if e := peel.CheckLog(x.l); e != x.e {
			t.Error(x.name, e)
		}
	}
}

// TestLogErrors: all functions with a log return the error of CheckLog before their own, and zero values with it (R2).
func TestLogErrors(t *testing.T) {
	for _, x := range badLogs {
		bad := line(0, 0, 0)
		if v, e := peel.Core(x.l, bad); v != by(0, 0) || e != x.e {
			t.Error("Core", x.name, v, e)
		}
		if v, e := peel.Best(x.l); v != by(0, 0) || e != x.e {
			t.Error("Best", x.name, v, e)
		}
		if v, e := peel.Line(x.l); v != bad || e != x.e {
			t.Error("Line", x.name, v, e)
		}
		if v, e := peel.CheckProof(x.l, proof(-1, 0, 0, 9)); v != by(0, 0) || e != x.e {
			t.Error("CheckProof", x.name, v, e)
		}
		if v, e := peel.Proof(x.l); v != proof(0, 0, 0, 0) || e != x.e {
			t.Error("Proof", x.name, v, e)
		}
		if lo, hi, e := peel.Heights(x.l, 2001, -1); lo != by(0, 0) || hi != by(0, 0) || e != x.e {
			t.Error("Heights", x.name, lo, hi, e)
		}
		if n, e := peel.Turns(x.l, -1, 0); n != 0 || e != x.e {
			t.Error("Turns", x.name, n, e)
		}
	}
}

// badRoughs are rough logs that are not valid.
var badRoughs = []struct {
	name string
	r    api.PeelRough
	e    api.Errno
}{
	{"nothing", api.PeelRough{}, api.ErrMany},
	{"one place", api.PeelRough{At: longs(0), Low: edges(0, 0), High: edges(0, 0)}, api.ErrMany},
	{"nine places, no ranges", api.PeelRough{At: longs(0, 1, 2, 3, 4, 5, 6, 7, 8)}, api.ErrMany},
	{"few low", api.PeelRough{At: longs(0, 1), Low: edges(0, 0), High: edges(0, 0, 0, 0)}, api.ErrEqual},
	{"few high", api.PeelRough{At: longs(0, 1), Low: edges(0, 0, 0, 0), High: edges(0, 0)}, api.ErrEqual},
	{"many high", api.PeelRough{At: longs(0, 1), Low: edges(1, 0, 0, 0), High: edges(0, 0, 0, 0, 0, 0)}, api.ErrEqual},
	{"place above 100", api.PeelRough{At: longs(0, 101), Low: edges(0, 0, 0, 0), High: edges(0, 0, 0, 0)}, api.ErrRange},
	{"low upside down", api.PeelRough{At: longs(0, 1), Low: edges(0, 0, 1, 0), High: edges(2, 2, 2, 2)}, api.ErrRange},
	{"high upside down", api.PeelRough{At: longs(0, 1), Low: edges(0, 0, 0, 0), High: edges(2, 2, 2, 1)}, api.ErrRange},
	{"low too low", api.PeelRough{At: longs(0, 1), Low: edges(0, 0, -1001, 0), High: edges(2, 2, 2, 2)}, api.ErrRange},
	{"high too high", api.PeelRough{At: longs(0, 1), Low: edges(0, 0, 0, 0), High: edges(2, 2, 2, 1001)}, api.ErrRange},
	{"over one another, high too high", api.PeelRough{At: longs(0, 1), Low: edges(0, 3, 0, 0), High: edges(2, 2, 2, 1001)}, api.ErrRange},
	{"same place, high upside down", api.PeelRough{At: longs(1, 1), Low: edges(0, 0, 0, 0), High: edges(2, 2, 2, 1)}, api.ErrRange},
	{"same place", api.PeelRough{At: longs(1, 1), Low: edges(0, 0, 0, 0), High: edges(2, 2, 2, 2)}, api.ErrRule},
	{"over one another first", api.PeelRough{At: longs(0, 1), Low: edges(0, 3, 0, 0), High: edges(2, 4, 2, 2)}, api.ErrRule},
	{"over one another last", api.PeelRough{At: longs(0, 1), Low: edges(0, 0, 0, 1), High: edges(2, 4, 0, 2)}, api.ErrRule},
}

// TestCheckRough is P1.1 for rough logs; Span returns the same errors.
func TestCheckRough(t *testing.T) {
	for _, r := range []api.PeelRough{
		roughR(),
		{At: longs(0, 100), Low: edges(-1000, 1000, -1000, -1000), High: edges(1000, 1000, -1000, 1000)},
		{At: longs(0, 1, 2, 3, 4, 5, 6, 7), Low: make([]api.Range, 8), High: make([]api.Range, 8)},
	} {
		if e := peel.CheckRough(r); e != api.OK {
			t.Error(r, e)
		}
	}
	for _, x := range badRoughs {
		if e := peel.CheckRough(x.r); e != x.e {
			t.Error(x.name, e)
		}
		if lo, hi, e := peel.Span(x.r); lo != by(0, 0) || hi != by(0, 0) || e != x.e {
			t.Error("Span", x.name, lo, hi, e)
		}
	}
}

// cloned returns a log in memory of its own.
func cloned(l api.PeelLog) api.PeelLog {
	return api.PeelLog{At: append([]int64(nil), l.At...), Edges: append([]api.Range(nil), l.Edges...)}
}

// callAll calls all functions with a log, and lists what they return.
func callAll(l api.PeelLog, y api.PeelLine, p api.PeelProof, a, b int64) []any {
	var out []any
	add := func(x ...any) { out = append(out, x...) }
	add(peel.CheckLog(l), peel.CheckLine(y))
	core, e := peel.Core(l, y)
	add(core, e)
	best, e := peel.Best(l)
	add(best, e)
	found, e := peel.Line(l)
	add(found, e)
	proves, e := peel.CheckProof(l, p)
	add(proves, e)
	proof, e := peel.Proof(l)
	add(proof, e)
	lo, hi, e := peel.Heights(l, a, b)
	add(lo, hi, e)
	n, e := peel.Turns(l, a, b)
	add(n, e)
	r := api.PeelRough{At: l.At, Low: l.Edges, High: l.Edges}
	lo, hi, e = peel.Span(r)
	add(lo, hi, e, peel.CheckRough(r))
	return out
}

// TestAgain: equal calls return equal results (R9, R10), whatever is called in between, and no argument is changed (R4).
func TestAgain(t *testing.T) {
	var first [][]any
	for round := range 20 {
		for i, l := range goodLogs {
			given := cloned(l)
			got := callAll(given, line(3, 10, -1), proof(0, 0, 0, 0), 1, 1)
			if !reflect.DeepEqual(given, l) {
				t.Fatal("changed", given, l)
			}
			if round == 0 {
				first = append(first, got)
			} else if !reflect.DeepEqual(got, first[i]) {
				t.Fatal(got, first[i])
			}
		}
	}
}

// TestSpare: room behind the elements of an argument is not written to (R4).
func TestSpare(t *testing.T) {
	at := longs(0, 2, 4, 77)
	list := edges(0, 6, 1, 8, 0, 6, 7, 7)
	callAll(api.PeelLog{At: at[:3], Edges: list[:3]}, line(1, 3, 0), proof(0, 1, 2, 1), 1, 1)
	peel.Span(api.PeelRough{At: at[:3], Low: list[:3], High: list[:3]})
	if at[3] != 77 || list[3] != (api.Range{Lo: 7, Hi: 7}) {
		t.Error(at, list)
	}
}

// TestAnyNumber: no call panics, whatever the numbers are (P1, R5).
func TestAnyNumber(t *testing.T) {
	numbers := longs(math.MinInt64, math.MinInt64+1, -1<<36-1, -1, 0, 1, 2, 100, 101, 100001, 1<<36+1, math.MaxInt64)
	logs := append([]api.PeelLog{{}, {At: longs(0, 1)}, {Edges: edges(0, 1)}}, goodLogs...)
	for _, x := range badLogs {
		logs = append(logs, x.l)
	}
	for _, a := range numbers {
		for _, b := range numbers {
			logs := append(logs, log(longs(a, b), a, b, b, a), log(longs(0, 1), a, b, b, a))
			for _, l := range logs {
				callAll(l, line(a, b, a), proof(int(a), int(b), int(b), 0), a, b)
				callAll(l, line(1, a, b), proof(int(a), int(a), int(a), int(b)), b, a)
			}
		}
	}
}
