package lot

import (
	"fmt"
	"math"
	"math/big"
	"math/rand/v2"
	"slices"
	"testing"

	"scanchain/api"
)

func wantChart(t *testing.T, values []int, size int, center, width, low, high *big.Rat) {
	t.Helper()
	c, e := Chart(values, size)
	for name, pair := range map[string]struct {
		got  api.Fraction
		want *big.Rat
	}{"center": {c.Center, center}, "range": {c.Range, width}, "low": {c.Low, low}, "high": {c.High, high}} {
		wantFraction(t, fmt.Sprint(name, " of ", len(values), " in ", size), pair.want)(pair.got, e)
	}
}

func TestChart(t *testing.T) {
	wantChart(t, []int{1, 3, 5, 7}, 2, whole(4), whole(2), big.NewRat(6, 25), big.NewRat(194, 25))
	wantChart(t, []int{1, 3, 5, 7, 100_000}, 2, whole(4), whole(2), big.NewRat(6, 25), big.NewRat(194, 25))
	wantChart(t, []int{1, 3, 5, 7}, 3, whole(3), whole(4), big.NewRat(-27, 25), big.NewRat(177, 25))
	wantChart(t, []int{0, 0}, 2, whole(0), whole(0), whole(0), whole(0))
	wantChart(t, []int{-5, -5, -4, -6}, 2, whole(-5), whole(1), big.NewRat(-688, 100), big.NewRat(-312, 100))
	wantChart(t, []int{7, 1, 3, 5}, 4, whole(4), whole(6), big.NewRat(-38, 100), big.NewRat(838, 100))
	// A range of 100 around 0: the limits are the factors.
	for size, factor := range map[int]int{2: 188, 3: 102, 4: 73, 5: 58, 6: 48, 7: 42, 8: 37, 9: 34, 10: 31} {
		values := make([]int, size)
		values[0], values[size-1] = -50, 50
		wantChart(t, values, size, whole(0), whole(100), whole(-factor), whole(factor))
	}
}

func TestChartFollowsTheChapter(t *testing.T) {
	r := rand.New(rand.NewPCG(8, 6))
	for range 500 {
		size := 2 + r.IntN(9)
		values := randomValues(r, 60)
		if len(values) >= size {
			c := chartOf(values, size)
			wantChart(t, values, size, c.center, c.width, c.low, c.high)
		}
	}
	for size := 2; size <= 10; size++ {
		for _, values := range [][]int{wide(), slices.Repeat([]int{-100_000, 100_000}, 2_500), slices.Repeat([]int{100_000}, 5_000)} {
			c := chartOf(values, size)
			wantChart(t, values, size, c.center, c.width, c.low, c.high)
			wantList(t, "most", c.signals()...)(Signals(values, size))
		}
	}
}

// pairs returns subgroups of two: each has a mean, and the same range.
func pairs(width int, means ...int) []int {
	var values []int
	for _, mean := range means {
		values = append(values, mean-width, mean+width)
	}
	return values
}

func TestSignals(t *testing.T) {
	for _, c := range []struct {
		name   string
		values []int
		size   int
		want   []int
	}{
		{"the document's example", []int{1, 3, 5, 7}, 2, nil},
		{"no range", []int{1, 1, 1, 1, 1, 1, 9, 9}, 2, []int{0, 1, 2, 3}},
		{"all alike", []int{1, 1, 1, 1}, 2, nil},
		{"one subgroup", []int{1, 9, 5}, 2, nil},
		{"outside", pairs(1, 0, 0, 0, 0, 0, 8, 0, 0, 0, -8), 2, []int{5, 9}},
		{"in the limits", pairs(25, 94, -94), 2, nil},
		{"just outside", pairs(25, 95, -95), 2, []int{0, 1}},
		{"eight above", pairs(50, -8, -8, 2, 2, 2, 2, 2, 2, 2, 2), 2, []int{9}},
		{"nine above, which goes on", pairs(50, -9, -9, 2, 2, 2, 2, 2, 2, 2, 2, 2), 2, []int{9, 10}},
		{"seven above", pairs(50, -7, -7, 2, 2, 2, 2, 2, 2, 2), 2, nil},
		{"eight below", pairs(50, -1, -1, -1, -1, -1, -1, -1, -1, 8), 2, []int{7}},
		{"eight at the center", pairs(50, 0, 0, 0, 0, 0, 0, 0, 0, 0), 2, nil},
		{"one between at the center", pairs(50, 1, 1, 1, 1, 0, 1, 1, 1, 1, -8), 2, nil},
		{"one between on the other side", pairs(50, 1, 1, 1, 1, -1, 1, 1, 1, 1, -7), 2, nil},
		{"both sides, four each", pairs(50, 1, 1, 1, 1, -1, -1, -1, -1), 2, nil},
		{"values that are left", append(pairs(50, 1, 1, 1, 1, 1, 1, 1, 1, -8), 100_000), 2, []int{7}},
	} {
		wantList(t, c.name, c.want...)(Signals(c.values, c.size))
	}
	r := rand.New(rand.NewPCG(8, 7))
	signals := 0
	for range 2_000 {
		size := 2 + r.IntN(9)
		values := randomValues(r, 200)
		if len(values) >= size {
			want := chartOf(values, size).signals()
			signals += len(want)
			wantList(t, "random", want...)(Signals(values, size))
		}
	}
	if signals < 100 {
		t.Error("few signals", signals)
	}
}

// rows returns values of which the means of subgroups often are on one side for long.
func rows(r *rand.Rand, size int) []int {
	var values []int
	for range 1 + r.IntN(5) {
		mean := r.IntN(3) - 1
		for range size * (6 + r.IntN(5)) {
			values = append(values, mean+20*(len(values)%2)-10)
		}
	}
	return values
}

func TestSignalsOfRows(t *testing.T) {
	r := rand.New(rand.NewPCG(8, 8))
	for range 1_000 {
		size := 2 + 2*r.IntN(5)
		values := rows(r, size)
		wantList(t, "rows", chartOf(values, size).signals()...)(Signals(values, size))
	}
}

func TestChartErrors(t *testing.T) {
	want := func(name string, want api.Errno, values []int, size int) {
		t.Helper()
		if c, e := Chart(values, size); e != want || c != (api.Chart{}) {
			t.Errorf("chart, %s: %v %v, not %v", name, c, e, want)
		}
		if signals, e := Signals(values, size); e != want || len(signals) != 0 {
			t.Errorf("signals, %s: %v %v, not %v", name, signals, e, want)
		}
	}
	for _, size := range []int{1, 0, -1, 11, math.MinInt, math.MaxInt} {
		want("size", api.ErrArg, []int{1, 2, 3}, size)
		want("size before no values", api.ErrArg, nil, size)
		want("size before many values", api.ErrArg, make([]int, 5_001), size)
	}
	for _, c := range badValues {
		want(c.name, c.want, c.values, 2)
	}
	for size := 2; size <= 10; size++ {
		want("few values", api.ErrNone, make([]int, size-1), size)
		want("few values before a bad one", api.ErrNone, slices.Repeat([]int{math.MaxInt}, size-1), size)
		want("a bad value", api.ErrArg, append(make([]int, size-1), 100_001), size)
		want("a bad value that is left", api.ErrArg, append(make([]int, size), -100_001), size)
	}
}
