// Package ratio makes fractions.
package ratio

import "scanchain/api"

// Of returns a part of a whole in lowest terms: part is from 0 on, whole above 0.
func Of(part, whole int) api.Fraction {
	common, rest := whole, part
	for rest != 0 {
		common, rest = rest, common%rest
	}
	return api.Fraction{Num: part / common, Den: whole / common}
}
