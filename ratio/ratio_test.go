package ratio

import (
	"math"
	"testing"

	"scanchain/api"
)

func TestOf(t *testing.T) {
	for _, c := range []struct {
		part, whole int
		want        api.Fraction
	}{
		{0, 1, api.Fraction{Num: 0, Den: 1}},
		{0, 7, api.Fraction{Num: 0, Den: 1}},
		{1, 1, api.Fraction{Num: 1, Den: 1}},
		{5, 5, api.Fraction{Num: 1, Den: 1}},
		{2, 3, api.Fraction{Num: 2, Den: 3}},
		{3, 2, api.Fraction{Num: 3, Den: 2}},
		{6, 9, api.Fraction{Num: 2, Den: 3}},
		{12, 8, api.Fraction{Num: 3, Den: 2}},
		{8, 4, api.Fraction{Num: 2, Den: 1}},
		{19_999, 20_000, api.Fraction{Num: 19_999, Den: 20_000}},
		{math.MaxInt, math.MaxInt, api.Fraction{Num: 1, Den: 1}},
		{math.MaxInt - 1, math.MaxInt, api.Fraction{Num: math.MaxInt - 1, Den: math.MaxInt}},
	} {
		if got := Of(c.part, c.whole); got != c.want {
			t.Error(c.part, c.whole, got)
		}
	}
}
