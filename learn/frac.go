package learn

import (
	"cmp"

	"amnesty/api"
)

// fraction returns a fraction of a positive denominator in lowest terms.
func fraction(num, den int64) api.Frac {
	common := divisor(max(num, -num), den)
	return api.Frac{Num: num / common, Den: den / common}
}

// divisor returns the greatest common divisor of a number that is not negative and a positive one.
func divisor(a, b int64) int64 {
	for a != 0 {
		a, b = b%a, a
	}
	return b
}

// plus returns the sum of two fractions.
func plus(a, b api.Frac) api.Frac {
	return fraction(a.Num*b.Den+b.Num*a.Den, a.Den*b.Den)
}

// compareFracs compares fractions in lowest terms, of which equal ones are the same. The products stay within 64 bits: MaxRows bounds the terms of measures and worths.
func compareFracs(a, b api.Frac) int {
	if a == b {
		return 0
	}
	return cmp.Compare(a.Num*b.Den, b.Num*a.Den)
}
