package clip_test

import (
	"math/rand"
	"slices"
	"testing"

	"crossband/api"
)

// TestTurned is P2.12.
func TestTurned(t *testing.T) {
	eachLarge(t, 300, func(_ *rand.Rand, b api.ClipRibbon, k []api.ClipKind) {
		other := turned(b)
		if worth(t, b, k) != worth(t, other, k) || count(t, b, k) != count(t, other, k) {
			t.Error(other)
		}
		seen := partings(t, other, k)
		slices.Reverse(seen)
		if !slices.Equal(partings(t, b, k), seen) {
			t.Error(other, seen)
		}
	})
}

// TestMore is P2.13 for one more kind, and for greater Prices.
func TestMore(t *testing.T) {
	eachLarge(t, 300, func(r *rand.Rand, b api.ClipRibbon, k []api.ClipKind) {
		n := worth(t, b, k)
		if len(k) < api.MaxClipKinds {
			if more := append(slices.Clone(k), randomKinds(r, 1, 6)...); worth(t, b, more) < n {
				t.Error(more)
			}
		}
		dearer := slices.Clone(k)
		for i := range dearer {
			dearer[i].Price = min(api.MaxClipPrice, dearer[i].Price+r.Int63n(4))
		}
		if worth(t, b, dearer) < n {
			t.Error(dearer)
		}
	})
}

// TestTimes is P2.13 for Prices that are as many times as great.
func TestTimes(t *testing.T) {
	times := func(r *rand.Rand, k []api.ClipKind) (int64, []api.ClipKind) {
		many, out := 1+r.Int63n(50), slices.Clone(k)
		for i := range out {
			out[i].Price *= many
		}
		return many, out
	}
	r := rand.New(rand.NewSource(13))
	for range 300 {
		b, k := randomRibbon(r, api.MaxClipLength), randomKinds(r, api.MaxClipKinds, 20)
		many, great := times(r, k)
		if worth(t, b, great) != worth(t, b, k)*many || count(t, b, great) != count(t, b, k) ||
			!slices.Equal(cutsOf(t, b, great), cutsOf(t, b, k)) || !slices.Equal(partings(t, b, great), partings(t, b, k)) {
			t.Fatal(b, k, many)
		}
	}
}

// TestJoined is P2.14.
func TestJoined(t *testing.T) {
	r := rand.New(rand.NewSource(14))
	equal, more := 0, 0
	for range 500 {
		x, y := randomRibbon(r, 12), randomRibbon(r, 12)
		k := randomKinds(r, api.MaxClipKinds, 20)
		b := joined(x, y)
		both, n := worth(t, x, k)+worth(t, y, k), worth(t, b, k)
		parted := partings(t, b, k)[x.Length]
		if n < both || parted != api.ClipNever && n != both {
			t.Fatal(x, y, k, both, n, parted)
		}
		if n == both {
			equal++
		} else {
			more++
		}
	}
	if equal < 50 || more < 50 {
		t.Error("too few of a sort", equal, more)
	}
}
