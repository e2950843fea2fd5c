package lot

import (
	"cmp"
	"fmt"
	"math/big"
	"math/rand/v2"
	"slices"
	"strings"
	"testing"

	"scanchain/api"
)

// two is the limits of the document's example.
func two() []api.Limit {
	return []api.Limit{{Key: "volt", Low: 0, High: 10, Bin: 5}, {Key: "amp", Low: 0, High: 5, Bin: 6}}
}

func record(unit string, at int, site string, results ...int) api.Record {
	return api.Record{Unit: unit, At: at, Site: site, Results: results}
}

// four is records with the limits of two: u2 fails, and is good later; u3 fails.
func four() []api.Record {
	return []api.Record{record("u1", 1, "s1", 7, 3), record("u2", 2, "s1", 7, 9), record("u3", 3, "s2", 11), record("u2", 4, "s2", 8, 4)}
}

// plainBin is the bin of a record, and the test that it fails.
func plainBin(l []api.Limit, r api.Record) (int, int) {
	for test, result := range r.Results {
		if result < l[test].Low || result > l[test].High {
			return l[test].Bin, test
		}
	}
	return 1, -1
}

func plainGood(l []api.Limit, r api.Record) bool {
	bin, _ := plainBin(l, r)
	return bin == 1
}

// unitsOf are the units of records, and the records of each.
func unitsOf(r []api.Record) ([]string, map[string][]api.Record) {
	of := map[string][]api.Record{}
	var units []string
	for _, one := range r {
		if of[one.Unit] == nil {
			units = append(units, one.Unit)
		}
		of[one.Unit] = append(of[one.Unit], one)
	}
	slices.Sort(units)
	return units, of
}

// plainFinal is the record of each unit that counts.
func plainFinal(l []api.Limit, r []api.Record, rule int) []api.Record {
	units, of := unitsOf(r)
	var final []api.Record
	for _, unit := range units {
		records := of[unit]
		counts := records[len(records)-1]
		good := slices.IndexFunc(records, func(one api.Record) bool { return plainGood(l, one) })
		switch {
		case rule == api.RetestFirst:
			counts = records[0]
		case rule == api.RetestBest && good >= 0:
			counts = records[good]
		}
		final = append(final, counts)
	}
	return final
}

func pair(name string, value any) api.Pair {
	return api.Pair{Name: name, Value: fmt.Sprint(value)}
}

// plainThrough is the product of the parts of good results of each test that has results.
func plainThrough(l []api.Limit, r []api.Record) *big.Rat {
	product := big.NewRat(1, 1)
	for test, limit := range l {
		good, all := int64(0), int64(0)
		for _, one := range r {
			if test < len(one.Results) {
				all++
				if one.Results[test] >= limit.Low && one.Results[test] <= limit.High {
					good++
				}
			}
		}
		if all > 0 {
			product.Mul(product, big.NewRat(good, all))
		}
	}
	return product
}

func whole(n int) *big.Rat { return big.NewRat(int64(n), 1) }

// meanOf is the mean of numbers.
func meanOf(numbers ...*big.Rat) *big.Rat {
	sum := new(big.Rat)
	for _, number := range numbers {
		sum.Add(sum, number)
	}
	return sum.Quo(sum, whole(len(numbers)))
}

func wholes(values []int) []*big.Rat {
	var numbers []*big.Rat
	for _, value := range values {
		numbers = append(numbers, whole(value))
	}
	return numbers
}

func square(x *big.Rat) *big.Rat { return new(big.Rat).Mul(x, x) }

// plainSpread is the mean of values, and the mean of the squares of the differences from it.
func plainSpread(values []int) (mean, variance *big.Rat) {
	mean = meanOf(wholes(values)...)
	var squares []*big.Rat
	for _, value := range values {
		squares = append(squares, square(new(big.Rat).Sub(whole(value), mean)))
	}
	return mean, meanOf(squares...)
}

func plainAble(values []int, low, high int, need api.Fraction) bool {
	mean, variance := plainSpread(values)
	least := square(big.NewRat(int64(need.Num), int64(need.Den)))
	least.Mul(least, whole(9)).Mul(least, variance)
	for _, room := range []*big.Rat{new(big.Rat).Sub(mean, whole(low)), new(big.Rat).Sub(whole(high), mean)} {
		if room.Sign() < 0 || square(room).Cmp(least) < 0 {
			return false
		}
	}
	return true
}

// plainChart is a control chart, and the means of its subgroups.
type plainChart struct {
	center, width, low, high *big.Rat
	means                    []*big.Rat
}

func chartOf(values []int, size int) plainChart {
	factors := map[int]int64{2: 188, 3: 102, 4: 73, 5: 58, 6: 48, 7: 42, 8: 37, 9: 34, 10: 31}
	var c plainChart
	var widths []*big.Rat
	for from := 0; from+size <= len(values); from += size {
		group := values[from : from+size]
		c.means = append(c.means, meanOf(wholes(group)...))
		widths = append(widths, whole(slices.Max(group)-slices.Min(group)))
	}
	c.center, c.width = meanOf(c.means...), meanOf(widths...)
	away := new(big.Rat).Mul(big.NewRat(factors[size], 100), c.width)
	c.low, c.high = new(big.Rat).Sub(c.center, away), new(big.Rat).Add(c.center, away)
	return c
}

func (c plainChart) signals() []int {
	var signals []int
	for group, mean := range c.means {
		above, below := 0, 0
		for _, one := range c.means[max(0, group-7) : group+1] {
			switch one.Cmp(c.center) {
			case 1:
				above++
			case -1:
				below++
			}
		}
		if mean.Cmp(c.low) < 0 || mean.Cmp(c.high) > 0 || above == 8 || below == 8 {
			signals = append(signals, group)
		}
	}
	return signals
}

// plainTighter is the best of all pairs of good results.
func plainTighter(l []api.Limit, r []api.Record, test, most int) (low, high int, is bool) {
	var good []int
	for _, one := range r {
		if test < len(one.Results) && l[test].Low <= one.Results[test] && one.Results[test] <= l[test].High {
			good = append(good, one.Results[test])
		}
	}
	for _, x := range good {
		for _, y := range good {
			outside := 0
			for _, result := range good {
				if result < x || result > y {
					outside++
				}
			}
			if x <= y && outside <= most && (!is || cmp.Or(cmp.Compare(y-x, high-low), cmp.Compare(x, low)) < 0) {
				low, high, is = x, y, true
			}
		}
	}
	return low, high, is
}

func plainText(r []api.Record) string {
	text := ""
	for _, one := range r {
		text += fmt.Sprintln(one.Unit, one.At, one.Site, strings.Trim(fmt.Sprint(one.Results), "[]"))
	}
	return text
}

// randomLimits returns tests of which some have the same bin.
func randomLimits(r *rand.Rand) []api.Limit {
	var l []api.Limit
	for i := range 1 + r.IntN(4) {
		low := r.IntN(9) - 6
		l = append(l, api.Limit{Key: fmt.Sprint("t", 9-i), Low: low, High: low + r.IntN(6), Bin: []int{2, 3, 10, 100}[r.IntN(4)]})
	}
	return l
}

// randomResults returns results that are complete.
func randomResults(r *rand.Rand, l []api.Limit) []int {
	var results []int
	for _, limit := range l {
		switch r.IntN(8) {
		case 0:
			return append(results, limit.Low-1-r.IntN(3))
		case 1:
			return append(results, limit.High+1+r.IntN(3))
		}
		results = append(results, limit.Low+r.IntN(limit.High-limit.Low+1))
	}
	return results
}

// randomRecords returns records that are in order; some of them are of the same moment.
func randomRecords(r *rand.Rand, l []api.Limit, most int) []api.Record {
	var records []api.Record
	at := 0
	for range r.IntN(most + 1) {
		at += r.IntN(3)
		unit := fmt.Sprint("u", r.IntN(12))
		if last := len(records) - 1; last >= 0 && records[last].At == at && records[last].Unit >= unit {
			at++
		}
		records = append(records, record(unit, at, fmt.Sprint("s", r.IntN(11)), randomResults(r, l)...))
	}
	return records
}

// randomValues returns values that often are near each other.
func randomValues(r *rand.Rand, most int) []int {
	values := make([]int, 1+r.IntN(most))
	wide := []int{0, 1, 5, 100, 100_000}[r.IntN(5)]
	for i := range values {
		values[i] = r.IntN(2*wide+1) - wide
	}
	return values
}

// randomCases calls do with limits and records.
func randomCases(count int, do func(r *rand.Rand, l []api.Limit, records []api.Record)) {
	r := rand.New(rand.NewPCG(8, 1))
	for range count {
		l := randomLimits(r)
		do(r, l, randomRecords(r, l, 25))
	}
}

// wantList reports a list or an error that is not the one that is wanted.
func wantList[T comparable](t *testing.T, name string, want ...T) func(got []T, e api.Errno) {
	return func(got []T, e api.Errno) {
		t.Helper()
		if e != api.OK || !slices.Equal(got, want) {
			t.Errorf("%s: %v %v, not %v", name, got, e, want)
		}
	}
}

func wantFraction(t *testing.T, name string, want *big.Rat) func(got api.Fraction, e api.Errno) {
	return func(got api.Fraction, e api.Errno) {
		t.Helper()
		if e != api.OK || fmt.Sprint(got.Num, "/", got.Den) != fmt.Sprint(want.Num(), "/", want.Denom()) {
			t.Errorf("%s: %v %v, not %v", name, got, e, want)
		}
	}
}

func sameRecords(x, y []api.Record) bool {
	return slices.EqualFunc(x, y, func(x, y api.Record) bool {
		return x.Unit == y.Unit && x.At == y.At && x.Site == y.Site && slices.Equal(x.Results, y.Results)
	})
}

func wantRecords(t *testing.T, name string, want ...api.Record) func(got []api.Record, e api.Errno) {
	return func(got []api.Record, e api.Errno) {
		t.Helper()
		if e != api.OK || !sameRecords(got, want) {
			t.Errorf("%s: %v %v, not %v", name, got, e, want)
		}
	}
}
