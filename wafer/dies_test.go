package wafer

import (
	"fmt"
	"math"
	"math/rand/v2"
	"slices"
	"strings"
	"testing"

	"scanchain/api"
)

func wantCounts(t *testing.T, w api.Wafer, inked, untested int, want ...api.Pair) {
	t.Helper()
	pairs, gotInked, gotUntested, e := Counts(w)
	if gotInked != inked || gotUntested != untested {
		t.Errorf("%q: %d %d, not %d %d", w, gotInked, gotUntested, inked, untested)
	}
	wantList(t, fmt.Sprint(w), want...)(pairs, e)
}

func TestCounts(t *testing.T) {
	wantCounts(t, cross(), 0, 0, api.Pair{Name: "1", Value: "4"}, api.Pair{Name: "x", Value: "5"})
	wantCounts(t, waferWith("", "."), 0, 0)
	wantCounts(t, waferWith("", "?*?", "..?"), 1, 3)
	wantCounts(t, waferWith("9", "za90", "z*.?"), 1, 1, api.Pair{Name: "0", Value: "1"}, api.Pair{Name: "9", Value: "1"}, api.Pair{Name: "a", Value: "1"}, api.Pair{Name: "z", Value: "2"})
	wantCounts(t, filled(60, 60, "z"), 0, 0, api.Pair{Name: "z", Value: "3600"})
	all := "0123456789abcdefghijklmnopqrstuvwxyz"
	var pairs []api.Pair
	for _, bin := range all {
		pairs = append(pairs, api.Pair{Name: string(bin), Value: "1"})
	}
	wantCounts(t, waferWith("", all), 0, 0, pairs...)
	randomCases(200, func(_ *rand.Rand, w api.Wafer) {
		times := map[byte]int{}
		for _, die := range plainDies(w) {
			times[die]++
		}
		var pairs []api.Pair
		for b := range 128 {
			if n := times[byte(b)]; n > 0 && b != '?' && b != '*' {
				pairs = append(pairs, api.Pair{Name: string(rune(b)), Value: fmt.Sprint(n)})
			}
		}
		wantCounts(t, w, times['*'], times['?'], pairs...)
	})
}

func wantYield(t *testing.T, w api.Wafer, want api.Fraction, wantIs bool) {
	t.Helper()
	if part, is, e := Yield(w); e != api.OK || is != wantIs || part != want {
		t.Errorf("%q: %v %t %v, not %v %t", w, part, is, e, want, wantIs)
	}
}

func TestYield(t *testing.T) {
	wantYield(t, cross(), fraction(4, 9), true)
	wantYield(t, waferWith("1", ".?"), api.Fraction{}, false)
	wantYield(t, waferWith("1", "1?.*"), fraction(1, 2), true)
	wantYield(t, waferWith("1", "*"), fraction(0, 1), true)
	wantYield(t, waferWith("", "1x"), fraction(0, 1), true)
	wantYield(t, waferWith("1x", "1x?"), fraction(1, 1), true)
	wantYield(t, waferWith("0z", "0z09", "aaaz"), fraction(1, 2), true)
	randomCases(200, func(_ *rand.Rand, w api.Wafer) {
		want, is := plainPart(w, sortedPlaces(plainDies(w)))
		wantYield(t, w, want, is)
	})
}

func wantFailed(t *testing.T, w api.Wafer, p api.Point, want int) {
	t.Helper()
	if n, e := Failed(w, p); e != api.OK || n != want {
		t.Errorf("%q %v: %d %v, not %d", w, p, n, e, want)
	}
}

func TestFailed(t *testing.T) {
	for _, corner := range []api.Point{at(0, 0), at(2, 0), at(0, 2), at(2, 2)} {
		wantFailed(t, cross(), corner, 3)
	}
	wantFailed(t, cross(), at(1, 1), 4)
	wantFailed(t, cross(), at(1, 0), 3)
	wantFailed(t, filled(3, 3, "x"), at(1, 1), 8)
	wantFailed(t, filled(3, 3, "x"), at(2, 1), 5)
	wantFailed(t, filled(5, 1, "x"), at(2, 0), 2)
	wantFailed(t, waferWith("1", "x"), at(0, 0), 0)
	wantFailed(t, waferWith("1", "*?1", "*?.", "xx."), at(1, 1), 2)
	wantFailed(t, waferWith("", "1?"), at(1, 0), 1)
	randomCases(100, func(_ *rand.Rand, w api.Wafer) {
		for p := range plainDies(w) {
			wantFailed(t, w, p, plainFailedAround(w, p))
		}
	})
}

func TestFailedErrors(t *testing.T) {
	w := waferWith("1", "1x1", "x..")
	for p, want := range map[api.Point]api.Errno{
		at(-1, 0): api.ErrArg, at(0, -1): api.ErrArg, at(3, 0): api.ErrArg, at(0, 2): api.ErrArg, at(2, 2): api.ErrArg,
		at(math.MinInt, 0): api.ErrArg, at(0, math.MinInt): api.ErrArg, at(math.MaxInt, 0): api.ErrArg, at(0, math.MaxInt): api.ErrArg, at(math.MaxInt, math.MaxInt): api.ErrArg,
		at(1, 1): api.ErrNone, at(2, 1): api.ErrNone,
	} {
		if n, e := Failed(w, p); e != want || n != 0 {
			t.Error(p, n, e, want)
		}
	}
}

func TestEdge(t *testing.T) {
	wantList(t, "a point", at(0, 0))(Edge(waferWith("", "?")))
	wantList[api.Point](t, "no dies")(Edge(waferWith("", "..", "..")))
	wantList(t, "all but the center", at(0, 0), at(1, 0), at(2, 0), at(0, 1), at(2, 1), at(0, 2), at(1, 2), at(2, 2))(Edge(cross()))
	wantList(t, "a corner without a die", at(1, 0), at(2, 0), at(0, 1), at(1, 1), at(2, 1), at(0, 2), at(1, 2), at(2, 2))(Edge(waferWith("", ".?*", "1x1", "1x1")))
	hole := filled(5, 5, "?")
	hole.Rows[2] = "??.??"
	edge, e := Edge(hole)
	if e != api.OK || len(edge) != 24 {
		t.Error("around a hole", edge, e)
	}
	randomCases(200, func(_ *rand.Rand, w api.Wafer) {
		wantList(t, fmt.Sprint(w), plainEdge(w)...)(Edge(w))
	})
}

func wantClusters(t *testing.T, w api.Wafer, least int, want ...[]api.Point) {
	t.Helper()
	if groups, e := Clusters(w, least); e != api.OK || !slices.EqualFunc(groups, want, slices.Equal[[]api.Point]) {
		t.Errorf("%q %d: %v %v, not %v", w, least, groups, e, want)
	}
}

func TestClusters(t *testing.T) {
	all := []api.Point{at(1, 0), at(0, 1), at(1, 1), at(2, 1), at(1, 2)}
	wantClusters(t, cross(), 1, all)
	wantClusters(t, cross(), 5, all)
	wantClusters(t, cross(), 6)
	wantClusters(t, waferWith("1", "1?*."), 1)
	corners := waferWith("1", "x1x", "111", "x?x", "..x")
	wantClusters(t, corners, 1, []api.Point{at(0, 0)}, []api.Point{at(2, 0)}, []api.Point{at(0, 2)}, []api.Point{at(2, 2), at(2, 3)})
	wantClusters(t, corners, 2, []api.Point{at(2, 2), at(2, 3)})
	wantClusters(t, waferWith("1", "111x", "x1x1", "1x11"), 4, []api.Point{at(3, 0), at(0, 1), at(2, 1), at(1, 2)})
	wantClusters(t, waferWith("1", "x11x", "1x.x"), 1, []api.Point{at(0, 0), at(1, 1)}, []api.Point{at(3, 0), at(3, 1)})
	wantClusters(t, waferWith("", "1.2"), 1, []api.Point{at(0, 0)}, []api.Point{at(2, 0)})
	full := filled(60, 60, "x")
	wantClusters(t, full, 3_600, sortedPlaces(plainDies(full)))
	randomCases(150, func(r *rand.Rand, w api.Wafer) {
		least := 1 + r.IntN(3)
		wantClusters(t, w, least, plainClusters(w, least)...)
	})
	for _, least := range []int{0, -1, 3_601, math.MinInt, math.MaxInt} {
		if groups, e := Clusters(cross(), least); e != api.ErrArg || len(groups) != 0 {
			t.Error(least, groups, e)
		}
	}
}

func TestClustersAreApart(t *testing.T) {
	randomCases(150, func(_ *rand.Rand, w api.Wafer) {
		groups, e := Clusters(w, 1)
		if e != api.OK {
			t.Error(w, e)
		}
		for i, group := range groups {
			for _, other := range groups[:i] {
				for _, p := range group {
					if slices.ContainsFunc(other, func(q api.Point) bool { return p == q || areNear(p, q) }) {
						t.Error(w, group, other)
					}
				}
			}
		}
	})
}

func wantRings(t *testing.T, w api.Wafer, parts []api.Fraction, has []bool) {
	t.Helper()
	if gotParts, gotHas, e := Rings(w); e != api.OK || !slices.Equal(gotParts, parts) || !slices.Equal(gotHas, has) {
		t.Errorf("%q: %v %v %v, not %v %v", w, gotParts, gotHas, e, parts, has)
	}
}

func TestRings(t *testing.T) {
	wantRings(t, cross(), []api.Fraction{fraction(1, 2), fraction(0, 1)}, []bool{true, true})
	wantRings(t, waferWith("", ".."), nil, nil)
	wantRings(t, waferWith("1", "?"), []api.Fraction{fraction(0, 1)}, []bool{false})
	wantRings(t, waferWith("1", "*1?"), []api.Fraction{fraction(1, 2)}, []bool{true})
	wantRings(t, waferWith("1", "?????", "?111?", "?1?1?", "?11x?", "?????"), []api.Fraction{fraction(0, 1), fraction(7, 8), fraction(0, 1)}, []bool{false, true, false})
	wantRings(t, waferWith("1", "?????", "?111?", "?1*1?", "?1.x?", "?????"), []api.Fraction{fraction(3, 5), fraction(1, 1)}, []bool{true, true})
	wantRings(t, waferWith("1", "??????", "?1111?", "?1xx1?", "?1xx1?", "?11.1?", "??????"), []api.Fraction{fraction(3, 5), fraction(4, 5)}, []bool{true, true})
	parts, has, e := Rings(filled(60, 60, "1"))
	if e != api.OK || len(parts) != 30 || !slices.Equal(has, slices.Repeat([]bool{true}, 30)) || !slices.Equal(parts, slices.Repeat([]api.Fraction{fraction(1, 1)}, 30)) {
		t.Error(parts, has, e)
	}
	r := rand.New(rand.NewPCG(9, 2))
	for i := range 200 {
		w := randomWafer(r, 9, []string{"1x", "?1", strings.Repeat("1x?*", 15) + "."}[i%3])
		var parts []api.Fraction
		var has []bool
		for _, ring := range plainRings(w) {
			part, is := plainPart(w, ring)
			if !is {
				part = fraction(0, 1)
			}
			parts, has = append(parts, part), append(has, is)
		}
		wantRings(t, w, parts, has)
	}
}
