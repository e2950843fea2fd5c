package lot

import (
	"slices"

	"scanchain/api"
	"scanchain/numbers"
	"scanchain/ratio"
)

const (
	leastSubgroup = 2
	longRow       = 8 // subgroups on one side of the center that signal
)

// rangeFactors has the hundredths of the range from the center to a limit, for each size of subgroups.
var rangeFactors = [...]int{2: 188, 102, 73, 58, 48, 42, 37, 34, 31}

// control is the control chart of subgroups, and their means: whole numbers of parts, of which 1 has so many.
type control struct {
	parts, center, away, width int // away is how far the limits are from the center, width is the mean of the ranges
	means                      []int
}

func controlOf(values []int, size int) (control, api.Errno) {
	if !numbers.AreWithin(leastSubgroup, api.MaxSubgroup, size) {
		return control{}, api.ErrArg
	}
	if e := checkValues(values, size); e != api.OK {
		return control{}, e
	}
	count := len(values) / size
	c := control{parts: 100 * count * size}
	for group := range slices.Chunk(values[:count*size], size) {
		sum, width := sumsOf(group).plain, slices.Max(group)-slices.Min(group)
		c.means = append(c.means, 100*count*sum)
		c.center += 100 * sum
		c.width += 100 * size * width
		c.away += rangeFactors[size] * size * width
	}
	return c, api.OK
}

// Chart returns the control chart of values.
func Chart(values []int, size int) (api.Chart, api.Errno) {
	c, e := controlOf(values, size)
	if e != api.OK {
		return api.Chart{}, e
	}
	of := func(parts int) api.Fraction { return ratio.Of(parts, c.parts) }
	return api.Chart{Center: of(c.center), Range: of(c.width), Low: of(c.center - c.away), High: of(c.center + c.away)}, api.OK
}

// Signals returns the subgroups that signal.
func Signals(values []int, size int) ([]int, api.Errno) {
	c, e := controlOf(values, size)
	if e != api.OK {
		return nil, e
	}
	above, below := inRow(), inRow()
	var signals []int
	for group, mean := range c.means {
		isOutside := max(mean-c.center, c.center-mean) > c.away
		// Both count every subgroup.
		longest := max(above(mean > c.center), below(mean < c.center))
		if isOutside || longest >= longRow {
			signals = append(signals, group)
		}
	}
	return signals, api.OK
}

// inRow returns a function that counts how often it was given true, since it was last given false.
func inRow() func(is bool) int {
	count := 0
	return func(is bool) int {
		count++
		if !is {
			count = 0
		}
		return count
	}
}
