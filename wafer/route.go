package wafer

import (
	"slices"

	"scanchain/api"
	"scanchain/numbers"
)

const (
	maxPoints = 9
	maxAway   = 1_000
)

// Route returns the order of points with the shortest way.
func Route(p []api.Point) ([]int, int, api.Errno) {
	if e := checkPoints(p); e != api.OK {
		return nil, 0, e
	}
	var best []int
	shortest := maxPoints * 2 * maxAway
	// Orders are tried in their lexicographic order, so that the first one of several that are as short stays.
	var extend func(order []int, long int)
	extend = func(order []int, long int) {
		if long >= shortest {
			return
		}
		if len(order) == len(p) {
			best, shortest = slices.Clone(order), long
			return
		}
		last := p[order[len(order)-1]]
		for next := range p {
			if !slices.Contains(order, next) {
				extend(append(order, next), long+distance(last, p[next]))
			}
		}
	}
	extend([]int{0}, 0)
	return best, shortest, api.OK
}

func checkPoints(p []api.Point) api.Errno {
	if len(p) == 0 {
		return api.ErrNone
	}
	if len(p) > maxPoints {
		return api.ErrLarge
	}
	for _, point := range p {
		if !numbers.AreWithin(-maxAway, maxAway, point.X, point.Y) {
			return api.ErrArg
		}
	}
	return api.OK
}

func distance(p, q api.Point) int {
	return max(p.X-q.X, q.X-p.X, p.Y-q.Y, q.Y-p.Y)
}
