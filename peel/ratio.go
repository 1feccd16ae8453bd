package peel

import "crossband/api"

// gcd returns the greatest number that divides both; b is above 0.
func gcd(a, b int64) int64 {
	for a != 0 {
		a, b = b%a, a
	}
	return max(b, -b)
}

// ratio returns num by den in least terms; den is above 0.
func ratio(num, den int64) api.Ratio {
	d := gcd(num, den)
	return api.Ratio{Num: num / d, Den: den / d}
}

func whole(n int64) api.Ratio { return api.Ratio{Num: n, Den: 1} }

func less(a, b api.Ratio) bool { return a.Num*b.Den < b.Num*a.Den }

func more(a, b api.Ratio) bool { return less(b, a) }

func plus(a, b api.Ratio) api.Ratio {
	return ratio(a.Num*b.Den+b.Num*a.Den, a.Den*b.Den)
}

func minus(a, b api.Ratio) api.Ratio {
	return plus(a, api.Ratio{Num: -b.Num, Den: b.Den})
}

// part returns a, num times, divided by den, which is above 0.
func part(a api.Ratio, num, den int64) api.Ratio {
	return ratio(a.Num*num, a.Den*den)
}
