package clip_test

import (
	"cmp"
	"math/rand"
	"slices"
	"testing"

	"crossband/api"
	"crossband/clip"
)

func longs(x ...int64) []int64 { return x }

func ribbon(length int, faults ...int) api.ClipRibbon {
	return api.ClipRibbon{Length: length, Faults: faults}
}

// kinds returns a kind for each three numbers: Width, Price, Most.
func kinds(x ...int) []api.ClipKind {
	var out []api.ClipKind
	for i := 0; i < len(x); i += 3 {
		out = append(out, api.ClipKind{Width: x[i], Price: int64(x[i+1]), Most: x[i+2]})
	}
	return out
}

// sheets returns a sheet for each two numbers: From, Kind.
func sheets(x ...int) []api.ClipSheet {
	var out []api.ClipSheet
	for i := 0; i < len(x); i += 2 {
		out = append(out, api.ClipSheet{From: x[i], Kind: x[i+1]})
	}
	return out
}

// ribbonR and kindsK are R and K of the chapter's examples.
func ribbonR() api.ClipRibbon { return ribbon(10, 3, 8) }
func kindsK() []api.ClipKind  { return kinds(4, 10, 0, 2, 3, 0, 3, 4, 1) }

// randomRibbon returns a ribbon of up to so many units, of which each is a fault one time in six.
func randomRibbon(r *rand.Rand, longest int) api.ClipRibbon {
	out := ribbon(1 + r.Intn(longest))
	for unit := range out.Length {
		if r.Intn(6) == 0 {
			out.Faults = append(out.Faults, unit)
		}
	}
	return out
}

// randomKinds returns up to so many kinds. Most are narrow, and with small prices many cuts are best.
func randomKinds(r *rand.Rand, many int, dearest int64) []api.ClipKind {
	var out []api.ClipKind
	for range 1 + r.Intn(many) {
		out = append(out, api.ClipKind{Width: 1 + r.Intn(1+r.Intn(6)), Price: 1 + r.Int63n(dearest), Most: r.Intn(3)})
	}
	return out
}

// eachSmall calls f with ribbons and kinds that have so few cuts that all can be listed.
func eachSmall(t *testing.T, times int, f func(r *rand.Rand, b api.ClipRibbon, k []api.ClipKind)) {
	t.Helper()
	each(t, times, func(r *rand.Rand) (api.ClipRibbon, []api.ClipKind) {
		return randomRibbon(r, 7), randomKinds(r, 3, []int64{2, 6, 1000}[r.Intn(3)])
	}, f)
}

// eachLarge calls f with ribbons and kinds up to the limits.
func eachLarge(t *testing.T, times int, f func(r *rand.Rand, b api.ClipRibbon, k []api.ClipKind)) {
	t.Helper()
	each(t, times, func(r *rand.Rand) (api.ClipRibbon, []api.ClipKind) {
		return randomRibbon(r, api.MaxClipLength), randomKinds(r, api.MaxClipKinds, []int64{2, 6, 1000}[r.Intn(3)])
	}, f)
}

func each(t *testing.T, times int, random func(r *rand.Rand) (api.ClipRibbon, []api.ClipKind), f func(r *rand.Rand, b api.ClipRibbon, k []api.ClipKind)) {
	t.Helper()
	r := rand.New(rand.NewSource(int64(times)))
	f(r, ribbonR(), kindsK())
	for range times {
		b, k := random(r)
		f(r, b, k)
		if t.Failed() {
			t.Fatal(b, k)
		}
	}
}

// fits reports whether a sheet can be cut, unit by unit.
func fits(b api.ClipRibbon, k []api.ClipKind, s api.ClipSheet) bool {
	faults := 0
	for unit := s.From; unit < s.From+k[s.Kind].Width; unit++ {
		if unit < 0 || unit >= b.Length {
			return false
		}
		if slices.Contains(b.Faults, unit) {
			faults++
		}
	}
	return faults <= k[s.Kind].Most
}

// allCuts lists all cuts of a ribbon that begin with some sheets.
func allCuts(b api.ClipRibbon, k []api.ClipKind, begun []api.ClipSheet) [][]api.ClipSheet {
	out := [][]api.ClipSheet{slices.Clone(begun)}
	end := 0
	if n := len(begun); n > 0 {
		end = begun[n-1].From + k[begun[n-1].Kind].Width
	}
	for from := end; from < b.Length; from++ {
		for kind := range k {
			if s := (api.ClipSheet{From: from, Kind: kind}); fits(b, k, s) {
				out = append(out, allCuts(b, k, append(slices.Clone(begun), s))...)
			}
		}
	}
	return out
}

func worthOf(k []api.ClipKind, cuts []api.ClipSheet) int64 {
	var sum int64
	for _, s := range cuts {
		sum += k[s.Kind].Price
	}
	return sum
}

func compareSheets(a, b api.ClipSheet) int {
	return cmp.Or(cmp.Compare(a.From, b.From), cmp.Compare(a.Kind, b.Kind))
}

// bestByHand returns what best cuts are worth, and all of them in their order: those of all cuts that are worth most.
func bestByHand(b api.ClipRibbon, k []api.ClipKind) (int64, [][]api.ClipSheet) {
	var best [][]api.ClipSheet
	var most int64
	for _, cuts := range allCuts(b, k, nil) {
		n := worthOf(k, cuts)
		if n > most {
			best, most = nil, n
		}
		if n == most {
			best = append(best, cuts)
		}
	}
	slices.SortFunc(best, func(x, y []api.ClipSheet) int { return slices.CompareFunc(x, y, compareSheets) })
	return most, best
}

// parts reports whether cuts part a place.
func parts(k []api.ClipKind, cuts []api.ClipSheet, place int) bool {
	return !slices.ContainsFunc(cuts, func(s api.ClipSheet) bool {
		return s.From < place && place < s.From+k[s.Kind].Width
	})
}

// told returns what a function tells of a valid ribbon and kinds.
func told[T any](t *testing.T, f func(api.ClipRibbon, []api.ClipKind) (T, api.Errno), b api.ClipRibbon, k []api.ClipKind) T {
	t.Helper()
	x, e := f(b, k)
	if e != api.OK {
		t.Fatal(b, k, e)
	}
	return x
}

func worth(t *testing.T, b api.ClipRibbon, k []api.ClipKind) int64 {
	t.Helper()
	return told(t, clip.Worth, b, k)
}

func count(t *testing.T, b api.ClipRibbon, k []api.ClipKind) int64 {
	t.Helper()
	return told(t, clip.Count, b, k)
}

func cutsOf(t *testing.T, b api.ClipRibbon, k []api.ClipKind) []api.ClipSheet {
	t.Helper()
	return told(t, clip.Cuts, b, k)
}

func prices(t *testing.T, b api.ClipRibbon, k []api.ClipKind) []int64 {
	t.Helper()
	return told(t, clip.Prices, b, k)
}

// partings returns when each place is parted.
func partings(t *testing.T, b api.ClipRibbon, k []api.ClipKind) []int {
	t.Helper()
	var out []int
	for place := range b.Length + 1 {
		n, e := clip.Parted(b, k, place)
		if e != api.OK {
			t.Fatal(b, k, place, e)
		}
		out = append(out, n)
	}
	return out
}

func cost(t *testing.T, b api.ClipRibbon, k []api.ClipKind, fault int) int64 {
	t.Helper()
	n, e := clip.Cost(b, k, fault)
	if e != api.OK {
		t.Fatal(b, k, fault, e)
	}
	return n
}

// piece returns the part of a ribbon between two places.
func piece(b api.ClipRibbon, from, to int) api.ClipRibbon {
	out := ribbon(to - from)
	for _, unit := range b.Faults {
		if from <= unit && unit < to {
			out.Faults = append(out.Faults, unit-from)
		}
	}
	return out
}

// joined returns a ribbon, and another one behind it.
func joined(a, b api.ClipRibbon) api.ClipRibbon {
	out := ribbon(a.Length+b.Length, a.Faults...)
	for _, unit := range b.Faults {
		out.Faults = append(out.Faults, a.Length+unit)
	}
	return out
}

// turned returns a ribbon seen from its other end.
func turned(b api.ClipRibbon) api.ClipRibbon {
	out := ribbon(b.Length)
	for _, unit := range b.Faults {
		out.Faults = append(out.Faults, b.Length-1-unit)
	}
	slices.Reverse(out.Faults)
	return out
}

// without returns a ribbon without one of its faults.
func without(b api.ClipRibbon, fault int) api.ClipRibbon {
	return ribbon(b.Length, slices.Delete(slices.Clone(b.Faults), fault, fault+1)...)
}
