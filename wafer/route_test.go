package wafer

import (
	"fmt"
	"math"
	"math/rand/v2"
	"slices"
	"testing"

	"scanchain/api"
)

func wantRoute(t *testing.T, p []api.Point, wantSum int, want ...int) {
	t.Helper()
	order, sum, e := Route(p)
	if sum != wantSum {
		t.Errorf("%v: %d, not %d", p, sum, wantSum)
	}
	wantList(t, fmt.Sprint(p), want...)(order, e)
}

func TestRoute(t *testing.T) {
	wantRoute(t, []api.Point{at(0, 0), at(5, 0), at(1, 1), at(3, 0)}, 5, 0, 2, 3, 1)
	wantRoute(t, []api.Point{at(7, -7)}, 0, 0)
	wantRoute(t, []api.Point{at(0, 0), at(3, -4)}, 4, 0, 1)
	wantRoute(t, []api.Point{at(0, 0), at(-5, 4)}, 5, 0, 1)
	wantRoute(t, slices.Repeat([]api.Point{at(1, 1)}, 9), 0, 0, 1, 2, 3, 4, 5, 6, 7, 8)
	wantRoute(t, []api.Point{at(0, 0), at(2, 0), at(-2, 0)}, 6, 0, 1, 2)
	wantRoute(t, []api.Point{at(0, 0), at(2, 0), at(-1, 0)}, 4, 0, 2, 1)
	wantRoute(t, []api.Point{at(5, 5), at(1, 0), at(1, 0), at(5, 5)}, 5, 0, 3, 1, 2)
	wantRoute(t, []api.Point{at(-1_000, -1_000), at(1_000, 1_000), at(-1_000, 1_000), at(1_000, -1_000)}, 6_000, 0, 1, 2, 3)
	r := rand.New(rand.NewPCG(9, 6))
	for i := range 100 {
		points := make([]api.Point, 1+i%7)
		wide := []int{0, 1, 3, 1_000}[r.IntN(4)]
		for j := range points {
			points[j] = at(r.IntN(2*wide+1)-wide, r.IntN(2*wide+1)-wide)
		}
		order, sum := plainRoute(points)
		wantRoute(t, points, sum, order...)
	}
}

func TestRouteOfMostPoints(t *testing.T) {
	// Far from each other in turns: the way to and fro is the worst one.
	var points []api.Point
	for i := range 9 {
		points = append(points, at(2_000*(i%2)-1_000, 0))
	}
	wantRoute(t, points, 2_000, 0, 2, 4, 6, 8, 1, 3, 5, 7)
	points = nil
	for i := range 9 {
		points = append(points, at(i*i*i%17, i*i%13))
	}
	order, sum := plainRoute(points)
	wantRoute(t, points, sum, order...)
}

func TestRouteErrors(t *testing.T) {
	for _, c := range []struct {
		name string
		want api.Errno
		p    []api.Point
	}{
		{"no points", api.ErrNone, nil},
		{"many", api.ErrLarge, line(10)},
		{"many before a bad one", api.ErrLarge, slices.Repeat([]api.Point{at(1_001, 0)}, 10)},
		{"x above", api.ErrArg, []api.Point{at(1_001, 0)}},
		{"x below", api.ErrArg, []api.Point{at(0, 0), at(-1_001, 0)}},
		{"y above", api.ErrArg, []api.Point{at(0, 0), at(0, 1_001)}},
		{"y below", api.ErrArg, []api.Point{at(0, -1_001), at(0, 0)}},
		{"the least x", api.ErrArg, []api.Point{at(math.MinInt, 0)}},
		{"the most x", api.ErrArg, []api.Point{at(math.MaxInt, 0)}},
		{"the least y", api.ErrArg, []api.Point{at(0, math.MinInt)}},
		{"the most y", api.ErrArg, []api.Point{at(0, math.MaxInt)}},
	} {
		if order, sum, e := Route(c.p); e != c.want || len(order) != 0 || sum != 0 {
			t.Errorf("%s: %v %d %v, not %v", c.name, order, sum, e, c.want)
		}
	}
}
