// Package numbers has the ranges of numbers.
package numbers

import (
	"slices"

	"scanchain/api"
)

// AreWithin reports whether all numbers are from low to high.
func AreWithin(low, high int, numbers ...int) bool {
	return !slices.ContainsFunc(numbers, func(n int) bool {
		return n < low || n > high
	})
}

// IsMoment reports whether a number is a moment.
func IsMoment(n int) bool {
	return AreWithin(0, api.End-1, n)
}
