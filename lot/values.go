package lot

import (
	"math/bits"
	"slices"

	"scanchain/api"
	"scanchain/numbers"
	"scanchain/ratio"
)

const mostNeed = 100 // Num and Den of what is needed

// Values returns all results of a test.
func Values(l []api.Limit, r []api.Record, test string) ([]int, api.Errno) {
	if e := CheckRecords(l, r); e != api.OK {
		return nil, e
	}
	place := testOf(l, test)
	if place < 0 {
		return nil, api.ErrNone
	}
	var values []int
	for _, record := range r {
		if place < len(record.Results) {
			values = append(values, record.Results[place])
		}
	}
	return values, api.OK
}

// checkValues asks for as many values as are needed.
func checkValues(values []int, needed int) api.Errno {
	switch {
	case len(values) < needed:
		return api.ErrNone
	case len(values) > api.MaxRecords:
		return api.ErrLarge
	case !areMeasures(values):
		return api.ErrArg
	}
	return api.OK
}

// sums are how many values there are, and the sums of them and of their squares.
type sums struct{ count, plain, squares int }

func sumsOf(values []int) sums {
	s := sums{count: len(values)}
	for _, value := range values {
		s.plain += value
		s.squares += value * value
	}
	return s
}

// variance returns the variance times the square of the number of values.
func (s sums) variance() int {
	return s.count*s.squares - s.plain*s.plain
}

// Spread returns the mean of values, and their variance.
func Spread(values []int) (api.Fraction, api.Fraction, api.Errno) {
	if e := checkValues(values, 1); e != api.OK {
		return api.Fraction{}, api.Fraction{}, e
	}
	s := sumsOf(values)
	return ratio.Of(s.plain, s.count), ratio.Of(s.variance(), s.count*s.count), api.OK
}

// Able reports whether the process is capable.
func Able(values []int, low, high int, need api.Fraction) (bool, api.Errno) {
	if e := checkValues(values, 1); e != api.OK {
		return false, e
	}
	switch {
	case !areLimits(low, high):
		return false, api.ErrArg
	case need.Num < 0 || !ratio.IsLowest(need):
		return false, api.ErrForm
	case need.Num > mostNeed || need.Den > mostNeed:
		return false, api.ErrArg
	}
	s := sumsOf(values)
	// The least distance of the mean from a limit, times the number of values: its square has the factor of the variance.
	room := min(s.plain-s.count*low, s.count*high-s.plain)
	return room >= 0 && isSquareLeast(room*need.Den, 3*need.Num, s.variance()), api.OK
}

// isSquareLeast reports whether the square of a number is at least the square of a factor times another number; none is below 0.
func isSquareLeast(number, factor, other int) bool {
	high, low := bits.Mul64(uint64(number), uint64(number))
	leastHigh, leastLow := bits.Mul64(uint64(factor*factor), uint64(other))
	return high > leastHigh || high == leastHigh && low >= leastLow
}

// Tighter returns limits of a test that are as narrow as can be.
func Tighter(l []api.Limit, r []api.Record, test string, most int) (int, int, bool, api.Errno) {
	good, e := Values(l, r, test)
	if e != api.OK {
		return 0, 0, false, e
	}
	if !numbers.AreWithin(0, api.MaxRecords, most) {
		return 0, 0, false, api.ErrArg
	}
	limit := l[testOf(l, test)]
	good = slices.DeleteFunc(good, func(result int) bool { return !accepts(limit, result) })
	if len(good) == 0 {
		return 0, 0, false, api.OK
	}
	slices.Sort(good)
	low, high := narrowest(good, max(1, len(good)-most))
	return low, high, true, api.OK
}

// narrowest returns the first and the last one of so many successive values that differ least.
func narrowest(rising []int, count int) (int, int) {
	low, high := rising[0], rising[count-1]
	for i, last := range rising[count-1:] {
		if last-rising[i] < high-low {
			low, high = rising[i], last
		}
	}
	return low, high
}
