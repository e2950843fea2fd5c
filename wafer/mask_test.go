package wafer

import (
	"fmt"
	"math"
	"math/rand/v2"
	"testing"

	"scanchain/api"
)

func TestRepeats(t *testing.T) {
	w := waferWith("1", "x1x1", "11x1")
	wantList(t, "the document's", at(0, 0))(Repeats(w, 2, 1, fraction(3, 4)))
	wantList(t, "all", at(0, 0), at(1, 0))(Repeats(w, 2, 1, fraction(0, 1)))
	wantList[api.Point](t, "none")(Repeats(w, 2, 1, fraction(4, 5)))
	wantList(t, "rows", at(0, 0), at(0, 1))(Repeats(w, 1, 2, fraction(1, 4)))
	wantList(t, "a row", at(0, 0))(Repeats(w, 1, 2, fraction(1, 2)))
	wantList(t, "all fail", at(0, 0))(Repeats(w, 2, 2, fraction(1, 1)))
	wantList(t, "in order", at(1, 0), at(0, 1))(Repeats(waferWith("1", "1x1", "x11"), 2, 2, fraction(1, 2)))
	wantList(t, "a mask that is larger", at(0, 0), at(2, 0), at(2, 1))(Repeats(w, 60, 60, fraction(1, 1)))
	wantList(t, "inked ones are tested", at(0, 0))(Repeats(waferWith("1", "x*"), 1, 1, fraction(1, 2)))
	wantList[api.Point](t, "and did not fail")(Repeats(waferWith("1", "x*"), 1, 1, fraction(500_001, 1_000_000)))
	wantList(t, "only tested ones", at(1, 0))(Repeats(waferWith("1", "?1."), 3, 1, fraction(0, 1)))
	wantList(t, "just as much", at(0, 0))(Repeats(waferWith("1", "x11"), 1, 1, fraction(333_333, 1_000_000)))
	wantList[api.Point](t, "a little less")(Repeats(waferWith("1", "x11"), 1, 1, fraction(333_334, 999_999)))
	wantList(t, "most", at(0, 0))(Repeats(filled(60, 60, "x"), 1, 1, fraction(1, 1)))
	randomCases(300, func(r *rand.Rand, w api.Wafer) {
		wide, high := 1+r.IntN(4), 1+r.IntN(4)
		least := []api.Fraction{fraction(0, 1), fraction(1, 4), fraction(1, 3), fraction(1, 2), fraction(2, 3), fraction(999_999, 1_000_000), fraction(1, 1)}[r.IntN(7)]
		wantList(t, fmt.Sprint(w, wide, high, least), plainRepeats(w, wide, high, least)...)(Repeats(w, wide, high, least))
	})
}

func TestRepeatsErrors(t *testing.T) {
	good := fraction(1, 2)
	for _, c := range []struct {
		wide, high int
		least      api.Fraction
		want       api.Errno
	}{
		{0, 1, good, api.ErrArg},
		{1, 0, good, api.ErrArg},
		{61, 1, good, api.ErrArg},
		{1, 61, good, api.ErrArg},
		{-1, 1, good, api.ErrArg},
		{1, math.MinInt, good, api.ErrArg},
		{math.MaxInt, 1, good, api.ErrArg},
		{0, 1, api.Fraction{}, api.ErrArg},
		{1, 61, fraction(2, 4), api.ErrArg},
		{1, 1, api.Fraction{}, api.ErrForm},
		{1, 1, fraction(1, 0), api.ErrForm},
		{1, 1, fraction(-1, -2), api.ErrForm},
		{1, 1, fraction(1, -2), api.ErrForm},
		{1, 1, fraction(2, 4), api.ErrForm},
		{1, 1, fraction(0, 2), api.ErrForm},
		{1, 1, fraction(4, 2), api.ErrForm},
		{1, 1, fraction(-2, 4), api.ErrForm},
		{1, 1, fraction(2, 2_000_000), api.ErrForm},
		{1, 1, fraction(math.MinInt, math.MinInt), api.ErrForm},
		{1, 1, fraction(-1, 2), api.ErrArg},
		{1, 1, fraction(-1, 1), api.ErrArg},
		{1, 1, fraction(3, 2), api.ErrArg},
		{1, 1, fraction(2, 1), api.ErrArg},
		{1, 1, fraction(math.MinInt, 1), api.ErrArg},
		{1, 1, fraction(math.MaxInt, 1), api.ErrArg},
		{1, 1, fraction(1, 1_000_001), api.ErrArg},
		{1, 1, fraction(1, math.MaxInt), api.ErrArg},
	} {
		if found, e := Repeats(cross(), c.wide, c.high, c.least); e != c.want || len(found) != 0 {
			t.Errorf("%d %d %v: %v %v, not %v", c.wide, c.high, c.least, found, e, c.want)
		}
	}
	for _, least := range []api.Fraction{fraction(0, 1), fraction(1, 1), fraction(1, 1_000_000), fraction(999_999, 1_000_000)} {
		if _, e := Repeats(cross(), 60, 60, least); e != api.OK {
			t.Error(least, e)
		}
	}
}
