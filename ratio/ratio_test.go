package ratio

import (
	"math"
	"testing"

	"scanchain/api"
)

func TestOf(t *testing.T) {
	for _, c := range []struct {
		part, whole int
		want        api.Fraction
	}{
		{0, 1, api.Fraction{Num: 0, Den: 1}},
		{0, 7, api.Fraction{Num: 0, Den: 1}},
		{1, 1, api.Fraction{Num: 1, Den: 1}},
		{5, 5, api.Fraction{Num: 1, Den: 1}},
		{2, 3, api.Fraction{Num: 2, Den: 3}},
		{3, 2, api.Fraction{Num: 3, Den: 2}},
		{6, 9, api.Fraction{Num: 2, Den: 3}},
		{12, 8, api.Fraction{Num: 3, Den: 2}},
		{8, 4, api.Fraction{Num: 2, Den: 1}},
		{19_999, 20_000, api.Fraction{Num: 19_999, Den: 20_000}},
		{-1, 1, api.Fraction{Num: -1, Den: 1}},
		{-2, 3, api.Fraction{Num: -2, Den: 3}},
		{-3, 9, api.Fraction{Num: -1, Den: 3}},
		{-9, 3, api.Fraction{Num: -3, Den: 1}},
		{-6, 9, api.Fraction{Num: -2, Den: 3}},
		{-12, 8, api.Fraction{Num: -3, Den: 2}},
		{-13, 8, api.Fraction{Num: -13, Den: 8}},
		{math.MinInt, 1, api.Fraction{Num: math.MinInt, Den: 1}},
		{math.MinInt, 6, api.Fraction{Num: math.MinInt / 2, Den: 3}},
		{math.MinInt, math.MaxInt, api.Fraction{Num: math.MinInt, Den: math.MaxInt}},
		{math.MaxInt, math.MaxInt, api.Fraction{Num: 1, Den: 1}},
		{math.MaxInt - 1, math.MaxInt, api.Fraction{Num: math.MaxInt - 1, Den: math.MaxInt}},
	} {
		if got := Of(c.part, c.whole); got != c.want {
			t.Error(c.part, c.whole, got)
		}
	}
}

func TestIsLowest(t *testing.T) {
	for _, f := range []api.Fraction{{Num: 0, Den: 1}, {Num: 1, Den: 1}, {Num: 2, Den: 3}, {Num: 3, Den: 2}, {Num: -1, Den: 1}, {Num: -2, Den: 3}, {Num: math.MinInt, Den: math.MaxInt}} {
		if !IsLowest(f) {
			t.Error(f)
		}
	}
	for _, f := range []api.Fraction{{}, {Num: 1, Den: 0}, {Num: 0, Den: 2}, {Num: 2, Den: 4}, {Num: -2, Den: 4}, {Num: 1, Den: -1}, {Num: -1, Den: -1}, {Num: 0, Den: -1}, {Num: math.MaxInt, Den: math.MaxInt}, {Num: math.MinInt, Den: math.MinInt}, {Num: 1, Den: math.MinInt}} {
		if IsLowest(f) {
			t.Error(f)
		}
	}
}
