// Package lot has the test records of units: their bins, retests and yields, and how well tests are under control.
package lot

import (
	"slices"

	"scanchain/api"
	"scanchain/numbers"
	"scanchain/words"
)

const goodBin = 1

// CheckLimits says what is wrong with limits.
func CheckLimits(l []api.Limit) api.Errno {
	if len(l) == 0 {
		return api.ErrNone
	}
	if len(l) > api.MaxTests {
		return api.ErrLarge
	}
	isNew := words.Fresh[string]()
	for _, limit := range l {
		switch {
		case !words.IsKey(limit.Key):
			return api.ErrName
		case !isNew(limit.Key):
			return api.ErrTwice
		case !areLimits(limit.Low, limit.High), !numbers.AreWithin(goodBin+1, api.MaxBins, limit.Bin):
			return api.ErrArg
		}
	}
	return api.OK
}

// areLimits reports whether measures can be good from low to high.
func areLimits(low, high int) bool {
	return -api.MaxMeasure <= low && low <= high && high <= api.MaxMeasure
}

func areMeasures(values []int) bool {
	return numbers.AreWithin(-api.MaxMeasure, api.MaxMeasure, values...)
}

// accepts reports whether a result is good.
func accepts(limit api.Limit, result int) bool {
	return limit.Low <= result && result <= limit.High
}

// failedBy returns the first test that results fail, and -1 if they fail none.
func failedBy(l []api.Limit, results []int) int {
	for test, result := range results {
		if !accepts(l[test], result) {
			return test
		}
	}
	return -1
}

// testOf returns the test with a key, and -1 if there is none.
func testOf(l []api.Limit, key string) int {
	return slices.IndexFunc(l, func(limit api.Limit) bool {
		return limit.Key == key
	})
}
