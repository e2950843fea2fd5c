package numbers

import (
	"math"
	"testing"

	"scanchain/api"
)

func TestAreWithin(t *testing.T) {
	for _, c := range []struct {
		low, high int
		numbers   []int
		want      bool
	}{
		{0, 0, nil, true},
		{1, 0, nil, true},
		{-2, 3, []int{-2, 0, 3}, true},
		{-2, 3, []int{-3}, false},
		{-2, 3, []int{4}, false},
		{-2, 3, []int{0, 4, 0}, false},
		{-2, 3, []int{0, 0, math.MinInt}, false},
		{-2, 3, []int{math.MaxInt, 0}, false},
		{math.MinInt, math.MaxInt, []int{math.MinInt, 0, math.MaxInt}, true},
	} {
		if AreWithin(c.low, c.high, c.numbers...) != c.want {
			t.Error(c.low, c.high, c.numbers, !c.want)
		}
	}
}

func TestIsMoment(t *testing.T) {
	for n, want := range map[int]bool{0: true, 1: true, api.End - 1: true, -1: false, api.End: false, math.MinInt: false, math.MaxInt: false} {
		if IsMoment(n) != want {
			t.Error(n, !want)
		}
	}
}
