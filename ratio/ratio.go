// Package ratio makes fractions.
package ratio

import "scanchain/api"

// Of returns a part of a whole in lowest terms: the whole is above 0.
func Of(part, whole int) api.Fraction {
	common, rest := whole, part
	for rest != 0 {
		common, rest = rest, common%rest
	}
	// What is left has the sign of the part, or that of the whole.
	if common < 0 {
		common = -common
	}
	return api.Fraction{Num: part / common, Den: whole / common}
}

// IsLowest reports whether a fraction is in lowest terms, and its Den above 0.
func IsLowest(f api.Fraction) bool {
	return f.Den > 0 && Of(f.Num, f.Den) == f
}
