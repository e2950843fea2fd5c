package wafer

import (
	"fmt"
	"math"
	"math/rand/v2"
	"testing"

	"scanchain/api"
)

func wantInk(t *testing.T, w api.Wafer, many, wantInked int, want api.Wafer) {
	t.Helper()
	got, inked, e := Ink(w, many)
	if inked != wantInked {
		t.Errorf("%q %d: %d, not %d", w, many, inked, wantInked)
	}
	wantWafer(t, fmt.Sprint(w, many), want)(got, e)
}

func TestInk(t *testing.T) {
	wantInk(t, cross(), 3, 4, waferWith("1", "*x*", "xxx", "*x*"))
	wantInk(t, cross(), 1, 4, waferWith("1", "*x*", "xxx", "*x*"))
	wantInk(t, cross(), 4, 0, cross())
	wantInk(t, waferWith("1", "xxx", "x1x", "xxx"), 8, 1, waferWith("1", "xxx", "x*x", "xxx"))
	wantInk(t, waferWith("1", "xxx", "x1x", "xx1"), 8, 0, waferWith("1", "xxx", "x1x", "xx1"))
	wantInk(t, waferWith("1", "x11x1"), 1, 3, waferWith("1", "x**x*"))
	wantInk(t, waferWith("1", "x?*.", "?xxx"), 1, 0, waferWith("1", "x?*.", "?xxx"))
	wantInk(t, waferWith("", "x1"), 1, 0, waferWith("", "x1"))
	wantInk(t, waferWith("1x", "x1"), 1, 0, waferWith("1x", "x1"))
	randomCases(150, func(r *rand.Rand, w api.Wafer) {
		many, n := 1+r.IntN(4), 0
		want := waferWith(w.Pass)
		for y, row := range w.Rows {
			inked := []byte(row)
			for x := range inked {
				if plainPassed(w, row[x]) && plainFailedAround(w, at(x, y)) >= many {
					inked[x] = '*'
					n++
				}
			}
			want.Rows = append(want.Rows, string(inked))
		}
		wantInk(t, w, many, n, want)
	})
	for _, many := range []int{0, -1, 9, math.MinInt, math.MaxInt} {
		if w, n, e := Ink(cross(), many); e != api.ErrArg || !isNone(w) || n != 0 {
			t.Error(many, w, n, e)
		}
	}
}

func TestTurned(t *testing.T) {
	wantWafer(t, "two by three", waferWith("1", ".?1", "*x2"))(Turned(waferWith("1", "12", "?x", ".*")))
	wantWafer(t, "a row", waferWith("", "1", "2", "3"))(Turned(waferWith("", "123")))
	wantWafer(t, "a column", waferWith("az", "321"))(Turned(waferWith("az", "1", "2", "3")))
	wantWafer(t, "a full row", filled(1, 60, "x"))(Turned(filled(60, 1, "x")))
	randomCases(150, func(_ *rand.Rand, w api.Wafer) {
		turned, e := Turned(w)
		if e != api.OK || len(turned.Rows) != len(w.Rows[0]) || turned.Pass != w.Pass {
			t.Fatal(w, turned, e)
		}
		for y, row := range w.Rows {
			for x := range row {
				if turned.Rows[x][len(w.Rows)-1-y] != row[x] {
					t.Error(w, turned, x, y)
				}
			}
		}
	})
}

func TestFourTurns(t *testing.T) {
	randomCases(100, func(_ *rand.Rand, w api.Wafer) {
		turned := w
		for range 4 {
			turned, _ = Turned(turned)
		}
		wantWafer(t, "four turns", w)(turned, CheckWafer(turned))
	})
}

func TestMerge(t *testing.T) {
	wantWafer(t, "each has one", waferWith("", "1x"))(Merge(waferWith("", "1?"), waferWith("", "?x")))
	wantWafer(t, "the same", cross())(Merge(cross(), cross()))
	wantWafer(t, "no die and untested", waferWith("1", "..?."))(Merge(waferWith("1", ".??."), waferWith("1", "?.?.")))
	wantWafer(t, "inked and untested", waferWith("1", "**"))(Merge(waferWith("1", "*?"), waferWith("1", "?*")))
	for _, pair := range [][2]string{{"1", "x"}, {"1", "*"}, {"1", "."}, {"*", "."}, {"a", "b"}, {"1?", "*1"}, {"?1", "1x"}} {
		for _, rows := range [][2]string{pair, {pair[1], pair[0]}} {
			if w, e := Merge(waferWith("1", rows[0]), waferWith("1", rows[1])); e != api.ErrConflict || !isNone(w) {
				t.Errorf("%q: %v %v", rows, w, e)
			}
		}
	}
}

func TestMergeIsPlain(t *testing.T) {
	randomCases(200, func(r *rand.Rand, w api.Wafer) {
		a, b := waferWith(w.Pass), waferWith(w.Pass)
		for _, row := range w.Rows {
			parts := [2][]byte{[]byte(row), []byte(row)}
			for x := range row {
				// What one of them does not know comes from the other one.
				if which := r.IntN(3); which < 2 {
					parts[which][x] = '?'
				}
			}
			a.Rows, b.Rows = append(a.Rows, string(parts[0])), append(b.Rows, string(parts[1]))
		}
		wantWafer(t, "a and b", w)(Merge(a, b))
		wantWafer(t, "b and a", w)(Merge(b, a))
		var differ []api.Point
		for y, row := range a.Rows {
			for x := range row {
				if row[x] != b.Rows[y][x] {
					differ = append(differ, at(x, y))
				}
			}
		}
		wantList(t, "changes", differ...)(Changes(a, b))
		wantList(t, "changes", differ...)(Changes(b, a))
	})
}

func TestChanges(t *testing.T) {
	wantList[api.Point](t, "the same")(Changes(cross(), cross()))
	wantList(t, "all", at(0, 0), at(1, 0), at(0, 1), at(1, 1))(Changes(waferWith("", "1?", ".*"), waferWith("", "2.", "1?")))
	wantList(t, "the last one", at(2, 1))(Changes(waferWith("1", "111", "???"), waferWith("1", "111", "??.")))
}

func TestWafersThatDoNotFit(t *testing.T) {
	for _, pair := range [][2]api.Wafer{
		{waferWith("1", "1", "1"), waferWith("1", "1")},
		{waferWith("1", "11"), waferWith("1", "1")},
		{waferWith("1", "1"), waferWith("", "1")},
		{waferWith("1", "1"), waferWith("12", "1")},
		{waferWith("1", "1"), waferWith("2", "x")},
		{waferWith("1", "11", "11"), waferWith("1", "1111")},
	} {
		for _, w := range [][2]api.Wafer{pair, {pair[1], pair[0]}} {
			if merged, e := Merge(w[0], w[1]); e != api.ErrForm || !isNone(merged) {
				t.Error(w, merged, e)
			}
			if found, e := Changes(w[0], w[1]); e != api.ErrForm || len(found) != 0 {
				t.Error(w, found, e)
			}
		}
	}
}
