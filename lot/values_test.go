package lot

import (
	"math"
	"math/big"
	"math/rand/v2"
	"slices"
	"testing"

	"scanchain/api"
)

func TestValues(t *testing.T) {
	wantList(t, "volt", 7, 7, 11, 8)(Values(two(), four(), "volt"))
	wantList(t, "amp", 3, 9, 4)(Values(two(), four(), "amp"))
	wantList[int](t, "no results", nil...)(Values(two(), four()[2:3], "amp"))
	for _, test := range []string{"", "no", "Volt", "vol", "volt "} {
		if values, e := Values(two(), four(), test); e != api.ErrNone || len(values) != 0 {
			t.Errorf("%q: %v %v", test, values, e)
		}
	}
	randomCases(100, func(_ *rand.Rand, l []api.Limit, r []api.Record) {
		for test, limit := range l {
			var want []int
			for _, one := range r {
				if len(one.Results) > test {
					want = append(want, one.Results[test])
				}
			}
			wantList(t, "random", want...)(Values(l, r, limit.Key))
		}
	})
}

// badValues has values that are wrong.
var badValues = []struct {
	name   string
	want   api.Errno
	values []int
}{
	{"no values", api.ErrNone, nil},
	{"many", api.ErrLarge, make([]int, 5_001)},
	{"many before a bad one", api.ErrLarge, slices.Repeat([]int{math.MinInt}, 5_001)},
	{"too low", api.ErrArg, []int{0, 0, -100_001}},
	{"too high", api.ErrArg, []int{0, 100_001, 0}},
	{"the least", api.ErrArg, []int{math.MinInt, 0}},
	{"the most", api.ErrArg, []int{math.MaxInt, 0}},
	{"all ints", api.ErrArg, []int{math.MaxInt, math.MinInt}},
}

func wantSpread(t *testing.T, name string, mean, variance *big.Rat) func(gotMean, gotVariance api.Fraction, e api.Errno) {
	return func(gotMean, gotVariance api.Fraction, e api.Errno) {
		t.Helper()
		wantFraction(t, name+": mean", mean)(gotMean, e)
		wantFraction(t, name+": variance", variance)(gotVariance, e)
	}
}

func TestSpread(t *testing.T) {
	for _, c := range []struct {
		name           string
		mean, variance *big.Rat
		values         []int
	}{
		{"the example", whole(4), whole(5), []int{1, 3, 5, 7}},
		{"one value", whole(7), whole(0), []int{7}},
		{"0", whole(0), whole(0), []int{0, 0, 0}},
		{"below 0", big.NewRat(-5, 3), big.NewRat(2, 9), []int{-1, -2, -2}},
		{"around 0", whole(0), whole(9), []int{-3, 3}},
		{"in lowest terms", big.NewRat(3, 2), big.NewRat(5, 4), []int{0, 1, 2, 3}},
	} {
		wantSpread(t, c.name, c.mean, c.variance)(Spread(c.values))
	}
	for _, c := range badValues {
		if mean, variance, e := Spread(c.values); e != c.want || mean != (api.Fraction{}) || variance != (api.Fraction{}) {
			t.Errorf("%s: %v %v %v, not %v", c.name, mean, variance, e, c.want)
		}
	}
	r := rand.New(rand.NewPCG(8, 3))
	for range 300 {
		values := randomValues(r, 60)
		mean, variance := plainSpread(values)
		wantSpread(t, "random", mean, variance)(Spread(values))
	}
}

// wide returns the most values, that differ as much as they can.
func wide() []int {
	return append(slices.Repeat([]int{-100_000}, 2_500), slices.Repeat([]int{100_000}, 2_500)...)
}

func TestSpreadOfTheMost(t *testing.T) {
	wantSpread(t, "wide", whole(0), whole(10_000_000_000))(Spread(wide()))
	wantSpread(t, "high", whole(100_000), whole(0))(Spread(slices.Repeat([]int{100_000}, 5_000)))
	wantSpread(t, "low", whole(-100_000), whole(0))(Spread(slices.Repeat([]int{-100_000}, 5_000)))
	odd := wide()
	odd[0] = -99_999
	mean, variance := plainSpread(odd)
	wantSpread(t, "large fractions", mean, variance)(Spread(odd))
}

func fraction(num, den int) api.Fraction { return api.Fraction{Num: num, Den: den} }

func TestAble(t *testing.T) {
	values := []int{1, 3, 5, 7} // their mean is 4, their variance 5: 3 deviations are a bit more than 6
	flat := []int{4, 4}
	for _, c := range []struct {
		name      string
		values    []int
		low, high int
		need      api.Fraction
		want      bool
	}{
		{"room on both sides", values, -4, 12, fraction(1, 1), true},
		{"room on the least", values, -3, 11, fraction(1, 1), true},
		{"no room below", values, -2, 12, fraction(1, 1), false},
		{"no room above", values, -4, 10, fraction(1, 1), false},
		{"half is needed", values, 0, 8, fraction(1, 2), true},
		{"half, no room", values, 1, 7, fraction(1, 2), false},
		{"the mean is below low, far enough", values, 100, 200, fraction(1, 1), false},
		{"the mean is above high, far enough", values, -200, -100, fraction(1, 1), false},
		{"nothing is needed", values, 4, 4, fraction(0, 1), true},
		{"nothing is needed, the mean is below low", values, 5, 9, fraction(0, 1), false},
		{"nothing is needed, the mean is above high", values, 0, 3, fraction(0, 1), false},
		{"no variance", flat, 4, 4, fraction(100, 1), true},
		{"no variance, outside", flat, 5, 5, fraction(1, 100), false},
		{"just as far", []int{-1, 1}, -3, 3, fraction(1, 1), true},
		{"just as far, more is needed", []int{-1, 1}, -3, 3, fraction(100, 99), false},
		{"just as far, less is needed", []int{-1, 1}, -3, 3, fraction(99, 100), true},
		{"a mean between", []int{0, 1}, -1, 2, fraction(1, 1), true},
		{"a mean between, no room", []int{0, 1}, -1, 2, fraction(51, 50), false},
	} {
		if is, e := Able(c.values, c.low, c.high, c.need); e != api.OK || is != c.want {
			t.Errorf("%s: %t %v", c.name, is, e)
		}
	}
	r := rand.New(rand.NewPCG(8, 4))
	counts := map[bool]int{}
	for range 3_000 {
		values := randomValues(r, 12)
		mean, variance := plainSpread(values)
		center, _ := mean.Float64()
		squared, _ := variance.Float64()
		need := fraction(r.IntN(20), 1+r.IntN(20))
		away := 3 * math.Sqrt(squared) * float64(need.Num) / float64(need.Den)
		low := max(-100_000, min(100_000, int(center-away)-1+r.IntN(3)))
		high := min(100_000, max(low, int(center+away)-1+r.IntN(3)))
		is, e := Able(values, low, high, need)
		if big.NewRat(int64(need.Num), int64(need.Den)).Denom().Int64() != int64(need.Den) {
			if e != api.ErrForm || is {
				t.Error(need, is, e)
			}
			continue
		}
		want := plainAble(values, low, high, need)
		counts[want]++
		if e != api.OK || is != want {
			t.Error(values, low, high, need, is, e)
		}
	}
	if counts[true] < 200 || counts[false] < 200 {
		t.Error("the cases are not mixed", counts)
	}
}

func TestAbleOfTheMost(t *testing.T) {
	// The deviation is 100,000, and limits are as far from the mean.
	for _, c := range []struct {
		need api.Fraction
		want bool
	}{{fraction(1, 3), true}, {fraction(33, 100), true}, {fraction(34, 100), false}, {fraction(33, 98), false}, {fraction(100, 1), false}, {fraction(100, 99), false}, {fraction(1, 100), true}} {
		if big.NewRat(int64(c.need.Num), int64(c.need.Den)).Denom().Int64() != int64(c.need.Den) {
			continue
		}
		if is, e := Able(wide(), -100_000, 100_000, c.need); e != api.OK || is != c.want {
			t.Error(c.need, is, e)
		}
	}
	high := slices.Repeat([]int{100_000}, 5_000)
	if is, e := Able(high, -100_000, 100_000, fraction(100, 1)); e != api.OK || !is {
		t.Error(is, e)
	}
	near := slices.Clone(high)
	near[0] = 99_999 // variance 4999/25000000, and a room of 1/5000
	for need, want := range map[api.Fraction]bool{fraction(1, 100): false, fraction(0, 1): true} {
		if is, e := Able(near, -100_000, 100_000, need); e != api.OK || is != want {
			t.Error(need, is, e)
		}
	}
	r := rand.New(rand.NewPCG(8, 5))
	for range 50 {
		values := slices.Clone(wide())
		for range r.IntN(3) {
			values[r.IntN(len(values))] = r.IntN(200_001) - 100_000
		}
		need := api.Fraction{Num: []int{33, 1, 100, 99}[r.IntN(4)], Den: []int{100, 3, 97, 98}[r.IntN(4)]}
		rat := big.NewRat(int64(need.Num), int64(need.Den))
		need = fraction(int(rat.Num().Int64()), int(rat.Denom().Int64()))
		low, high := -100_000+r.IntN(2), 100_000-r.IntN(2)
		if is, e := Able(values, low, high, need); e != api.OK || is != plainAble(values, low, high, need) {
			t.Error(low, high, need, is, e)
		}
	}
}

func TestAbleErrors(t *testing.T) {
	for _, c := range badValues {
		if is, e := Able(c.values, 1, 0, api.Fraction{}); e != c.want || is {
			t.Errorf("%s: %t %v, not %v", c.name, is, e, c.want)
		}
	}
	values := []int{0, 1}
	for _, c := range []struct {
		low, high int
		need      api.Fraction
		want      api.Errno
	}{
		{1, 0, api.Fraction{}, api.ErrArg},
		{-100_001, 0, fraction(1, 1), api.ErrArg},
		{0, 100_001, fraction(1, 1), api.ErrArg},
		{math.MinInt, math.MaxInt, fraction(1, 1), api.ErrArg},
		{math.MaxInt, math.MaxInt, fraction(1, 1), api.ErrArg},
		{math.MinInt, math.MinInt, fraction(1, 1), api.ErrArg},
		{-100_000, 100_000, api.Fraction{}, api.ErrForm},
		{0, 1, fraction(1, 0), api.ErrForm},
		{0, 1, fraction(0, 2), api.ErrForm},
		{0, 1, fraction(2, 4), api.ErrForm},
		{0, 1, fraction(200, 100), api.ErrForm},
		{0, 1, fraction(202, 202), api.ErrForm},
		{0, 1, fraction(-1, 1), api.ErrForm},
		{0, 1, fraction(1, -1), api.ErrForm},
		{0, 1, fraction(-1, -1), api.ErrForm},
		{0, 1, fraction(0, -1), api.ErrForm},
		{0, 1, fraction(math.MinInt, 1), api.ErrForm},
		{0, 1, fraction(1, math.MinInt), api.ErrForm},
		{0, 1, fraction(math.MinInt, math.MinInt), api.ErrForm},
		{0, 1, fraction(math.MaxInt, math.MaxInt), api.ErrForm},
		{0, 1, fraction(-101, 102), api.ErrForm},
		{0, 1, fraction(101, 1), api.ErrArg},
		{0, 1, fraction(1, 101), api.ErrArg},
		{0, 1, fraction(101, 102), api.ErrArg},
		{0, 1, fraction(math.MaxInt, 1), api.ErrArg},
		{0, 1, fraction(1, math.MaxInt), api.ErrArg},
		{0, 1, fraction(100, 99), api.OK},
		{0, 1, fraction(99, 100), api.OK},
	} {
		if is, e := Able(values, c.low, c.high, c.need); e != c.want || is {
			t.Error(c.low, c.high, c.need, is, e)
		}
	}
}

func wantTighter(t *testing.T, l []api.Limit, r []api.Record, test string, most, wantLow, wantHigh int, want bool) {
	t.Helper()
	if low, high, is, e := Tighter(l, r, test, most); e != api.OK || low != wantLow || high != wantHigh || is != want {
		t.Error(l, r, test, most, ":", low, high, is, e, "not", wantLow, wantHigh, want)
	}
}

// of returns records with these results of a test, which accepts 0 to 100.
func of(results ...int) ([]api.Limit, []api.Record) {
	var r []api.Record
	for at, result := range results {
		r = append(r, record("u", at, "s", result))
	}
	return []api.Limit{limit("a", 0, 100, 2)}, r
}

func TestTighter(t *testing.T) {
	for _, c := range []struct {
		results         []int
		most, low, high int
		is              bool
	}{
		{[]int{5}, 0, 5, 5, true},
		{[]int{5}, 1, 5, 5, true},
		{[]int{5, 3, 9}, 0, 3, 9, true},
		{[]int{9, 3, 5}, 1, 3, 5, true},
		{[]int{9, 7, 3}, 1, 7, 9, true},
		{[]int{7, 3, 5}, 1, 3, 5, true},
		{[]int{7, 9, 3}, 2, 3, 3, true},
		{[]int{7, 9, 3}, 5_000, 3, 3, true},
		{[]int{9, 9, 3, 7}, 2, 9, 9, true},
		{[]int{9, 9, 3, 7}, 3, 3, 3, true},
		{[]int{101, 9, -1, 3}, 0, 3, 9, true},
		{[]int{101, 9, -1, 3}, 1, 3, 3, true},
		{[]int{0, 100}, 0, 0, 100, true},
		{[]int{101, -1}, 0, 0, 0, false},
		{[]int{101, -1}, 2, 0, 0, false},
	} {
		l, r := of(c.results...)
		wantTighter(t, l, r, "a", c.most, c.low, c.high, c.is)
	}
	wantTighter(t, two(), four(), "volt", 0, 7, 8, true)
	wantTighter(t, two(), four(), "amp", 0, 3, 4, true)
	wantTighter(t, two(), four(), "amp", 1, 3, 3, true)
	below := []api.Limit{limit("a", -9, -2, 2)}
	wantTighter(t, below, []api.Record{record("a", 0, "s", -3), record("b", 0, "s", -9), record("c", 0, "s", -5), record("d", 0, "s", 0)}, "a", 1, -5, -3, true)
	randomCases(300, func(_ *rand.Rand, l []api.Limit, r []api.Record) {
		for test, limit := range l {
			for _, most := range []int{0, 1, 2, 5, len(r), 5_000} {
				low, high, is := plainTighter(l, r, test, most)
				wantTighter(t, l, r, limit.Key, most, low, high, is)
			}
		}
	})
	many, most := many(1), manyRecords(5_000)
	wantTighter(t, many, most, "t0", 5_000, 0, 0, true)
}

func TestTighterErrors(t *testing.T) {
	for _, c := range []struct {
		test string
		most int
		want api.Errno
	}{
		{"no", 0, api.ErrNone},
		{"", -1, api.ErrNone},
		{"volt", -1, api.ErrArg},
		{"volt", 5_001, api.ErrArg},
		{"amp", math.MinInt, api.ErrArg},
		{"amp", math.MaxInt, api.ErrArg},
	} {
		for _, r := range [][]api.Record{nil, four()} {
			if low, high, is, e := Tighter(two(), r, c.test, c.most); e != c.want || is || low != 0 || high != 0 {
				t.Error(c.test, c.most, low, high, is, e)
			}
		}
	}
}
