package wafer

import (
	"fmt"
	"math"
	"math/rand/v2"
	"slices"
	"strings"
	"testing"

	"scanchain/api"
)

// holed is the wafer of the untested dies around a place without one.
func holed() api.Wafer { return waferWith("1", "???", "?.?") }

func wantTouched(t *testing.T, w api.Wafer, card []api.Point, touchdown api.Point, spare int, want ...api.Point) {
	t.Helper()
	dies, n, e := Touched(w, card, touchdown)
	if n != spare {
		t.Errorf("%q %v %v: %d, not %d", w, card, touchdown, n, spare)
	}
	wantList(t, fmt.Sprint(w, card, touchdown), want...)(dies, e)
}

func TestTouched(t *testing.T) {
	wantTouched(t, holed(), line(2), at(2, 1), 1, at(2, 1))
	wantTouched(t, holed(), line(2), at(0, 0), 0, at(0, 0), at(1, 0))
	wantTouched(t, holed(), line(2), at(-1, 1), 1, at(0, 1))
	wantTouched(t, holed(), line(2), at(5, 5), 2)
	wantTouched(t, holed(), []api.Point{at(1, 0), at(0, 1), at(2, 1)}, at(0, 0), 0, at(1, 0), at(0, 1), at(2, 1))
	wantTouched(t, holed(), []api.Point{at(1, 0), at(0, 1), at(2, 1)}, at(0, -1), 1, at(0, 0), at(2, 0))
	wantTouched(t, waferWith("1", "1*.x?"), line(5), at(0, 0), 4, at(4, 0))
	far := []api.Point{at(0, 0), at(59, 59)}
	wantTouched(t, filled(60, 60, "?"), far, at(-59, -59), 1, at(0, 0))
	wantTouched(t, filled(60, 60, "?"), far, at(59, 59), 1, at(59, 59))
	randomCases(200, func(r *rand.Rand, w api.Wafer) {
		card, touchdown := randomCard(r, 8), at(r.IntN(9)-2, r.IntN(9)-2)
		dies := plainDies(w)
		var want []api.Point
		for _, site := range card {
			if p := at(touchdown.X+site.X, touchdown.Y+site.Y); dies[p] == '?' {
				want = append(want, p)
			}
		}
		wantTouched(t, w, card, touchdown, len(card)-len(want), want...)
	})
	for _, touchdown := range []api.Point{at(-60, 0), at(0, -60), at(60, 0), at(0, 60), at(math.MinInt, 0), at(0, math.MinInt), at(math.MaxInt, 0), at(0, math.MaxInt)} {
		if dies, n, e := Touched(holed(), line(2), touchdown); e != api.ErrArg || len(dies) != 0 || n != 0 {
			t.Error(touchdown, dies, n, e)
		}
	}
}

func wantRows(t *testing.T, w api.Wafer, card []api.Point, again int, want ...api.Point) {
	t.Helper()
	touchdowns, n, e := Rows(w, card)
	if n != again {
		t.Errorf("%q %v: %d, not %d", w, card, n, again)
	}
	wantList(t, fmt.Sprint(w, card), want...)(touchdowns, e)
}

func TestRows(t *testing.T) {
	wantRows(t, holed(), line(2), 0, at(0, 0), at(2, 0), at(0, 1), at(2, 1))
	wantRows(t, cross(), line(2), 0)
	wantRows(t, waferWith("1", "?1*x.?"), line(5), 3, at(0, 0), at(5, 0))
	wantRows(t, waferWith("1", "?.1?1"), []api.Point{at(0, 0), at(2, 0)}, 1, at(0, 0), at(3, 0))
	wantRows(t, waferWith("1", "?1?"), []api.Point{at(0, 0), at(1, 0)}, 1, at(0, 0), at(2, 0))
	wantRows(t, waferWith("1", "?1", "?x"), []api.Point{at(1, 0), at(0, 1)}, 0, at(-1, 0), at(-1, 1))
	wantRows(t, waferWith("1", "1?", "x1"), []api.Point{at(1, 0), at(0, 1)}, 1, at(0, 0))
	wantRows(t, waferWith("1", "???", "1??"), []api.Point{at(1, 0), at(0, 1)}, 1, at(-1, 0), at(0, 0), at(1, 0), at(1, 1))
	wantRows(t, waferWith("1", "1??", "???"), []api.Point{at(0, 0), at(2, 0), at(1, 1)}, 1, at(1, 0), at(2, 0), at(0, 1), at(1, 1))
	wantRows(t, waferWith("1", "??1??"), []api.Point{at(0, 0), at(2, 0)}, 1, at(0, 0), at(1, 0), at(4, 0))
	wantRows(t, waferWith("1", "?1", "?1", "??"), []api.Point{at(0, 0), at(1, 0), at(1, 1)}, 4, at(0, 0), at(0, 1), at(0, 2))
	wantRows(t, waferWith("1", "?..?..?"), []api.Point{at(0, 0), at(1, 0), at(2, 0)}, 0, at(0, 0), at(3, 0), at(6, 0))
	wantRows(t, waferWith("1", "?", "."), []api.Point{at(59, 0), at(0, 59)}, 0, at(-59, 0))
	randomCases(400, func(r *rand.Rand, w api.Wafer) {
		card := randomCard(r, 8)
		touchdowns, again := plainRows(w, card)
		wantRows(t, w, card, again, touchdowns...)
	})
	touchdowns, n, e := Rows(filled(60, 60, "?"), line(1))
	if e != api.OK || n != 0 || len(touchdowns) != 3_600 {
		t.Error(len(touchdowns), n, e)
	}
}

func wantFewest(t *testing.T, w api.Wafer, card []api.Point, wantIs bool, want ...api.Point) {
	t.Helper()
	touchdowns, is, e := Fewest(w, card)
	if is != wantIs {
		t.Errorf("%q %v: %t", w, card, is)
	}
	wantList(t, fmt.Sprint(w, card), want...)(touchdowns, e)
}

func TestFewest(t *testing.T) {
	wantFewest(t, holed(), line(2), true, at(-1, 0), at(1, 0), at(-1, 1), at(1, 1))
	wantFewest(t, cross(), line(2), true)
	wantFewest(t, waferWith("1", ".."), line(2), true)
	wantFewest(t, waferWith("1", "1?1"), line(2), false)
	wantFewest(t, waferWith("1", "*?x"), line(2), false)
	wantFewest(t, waferWith("1", ".?1"), line(2), true, at(0, 0))
	wantFewest(t, waferWith("1", "1?"), line(2), true, at(1, 0))
	wantFewest(t, waferWith("1", "1???"), line(2), true, at(1, 0), at(3, 0))
	wantFewest(t, waferWith("1", "1???1"), line(2), false)
	wantFewest(t, waferWith("1", "1?", "??"), []api.Point{at(0, 0), at(1, 1)}, true, at(0, -1), at(-1, 0), at(1, 1))
	wantFewest(t, waferWith("1", "????"), []api.Point{at(0, 0), at(2, 0)}, true, at(0, 0), at(1, 0))
	wantFewest(t, waferWith("1", "??????"), []api.Point{at(0, 0), at(1, 0), at(3, 0)}, true, at(-2, 0), at(-1, 0), at(3, 0), at(5, 0))
	wantFewest(t, waferWith("1", "?"), []api.Point{at(59, 0), at(0, 59)}, true, at(0, -59))
	wantFewest(t, filled(60, 60, "."), line(8), true)
	corner := filled(60, 60, ".")
	corner.Rows[59] = strings.Repeat(".", 59) + "?"
	wantFewest(t, corner, line(8), true, at(52, 59))
}

func TestFewestIsPlain(t *testing.T) {
	r := rand.New(rand.NewPCG(9, 4))
	plans := 0
	for i := range 400 {
		w := randomWafer(r, 4, []string{"?1", "?.", "?.1", "?....*"}[i%4])
		card := randomCard(r, 4)
		want, is := plainFewest(w, card)
		if len(want) > 0 {
			plans++
		}
		if dies := strings.Count(strings.Join(w.Rows, ""), "?"); dies <= 14 {
			wantFewest(t, w, card, is, want...)
		}
	}
	if plans < 100 {
		t.Error("few plans", plans)
	}
}

// times returns how often touchdowns touch each place.
func times(card, touchdowns []api.Point) map[api.Point]int {
	touched := map[api.Point]int{}
	for _, touchdown := range touchdowns {
		for _, site := range card {
			touched[at(touchdown.X+site.X, touchdown.Y+site.Y)]++
		}
	}
	return touched
}

func TestFewestTouchesOnce(t *testing.T) {
	r := rand.New(rand.NewPCG(9, 5))
	compared := 0
	for range 3_000 {
		w, card := randomWafer(r, 6, "?.."), randomCard(r, 3)
		touchdowns, is, e := Fewest(w, card)
		if e == api.ErrLarge || !is {
			continue
		}
		touched := times(card, touchdowns)
		for p, die := range plainDies(w) {
			if die == '?' && touched[p] != 1 {
				t.Error(w, card, touchdowns, p)
			}
		}
		if rows, again, _ := Rows(w, card); again == 0 {
			compared++
			if len(touchdowns) > len(rows) {
				t.Error(w, card, touchdowns, rows)
			}
		}
	}
	if compared < 500 {
		t.Error("few plans of rows that touch nothing twice", compared)
	}
}

func TestFewestSize(t *testing.T) {
	for _, w := range []api.Wafer{filled(15, 1, "?"), filled(60, 60, "?"), waferWith("1", strings.Repeat("?", 14)+"1?")} {
		if touchdowns, is, e := Fewest(w, line(2)); e != api.ErrLarge || is || len(touchdowns) != 0 {
			t.Error(len(touchdowns), is, e)
		}
	}
	wantFewest(t, filled(14, 1, "?"), line(8), true, at(-2, 0), at(6, 0))
	wantFewest(t, filled(14, 1, "?"), line(1), true, slices.Collect(func(yield func(api.Point) bool) {
		for x := range 14 {
			yield(at(x, 0))
		}
	})...)
	// Dies far from each other, and sites near each other, leave the most to choose from.
	scattered := filled(60, 60, ".")
	for i := range 14 {
		row := []byte(scattered.Rows[i*4])
		row[i*4] = '?'
		scattered.Rows[i*4] = string(row)
	}
	for _, w := range []api.Wafer{scattered, filled(14, 1, "?"), waferWith("1", "????", "????", "????", "??..")} {
		for _, card := range [][]api.Point{line(8), {at(0, 0), at(1, 0), at(2, 0), at(0, 1), at(2, 1), at(0, 2), at(1, 2), at(2, 2)}, {at(0, 0), at(59, 59)}} {
			if _, _, e := Fewest(w, card); e != api.OK {
				t.Error(w, card, e)
			}
		}
	}
}
