package wafer

import (
	"slices"

	"scanchain/api"
	"scanchain/numbers"
	"scanchain/ratio"
	"scanchain/words"
)

// spread returns first, and then, for each step to places around, those that join.
func spread(first []api.Point, joins func(p api.Point) bool) [][]api.Point {
	var steps [][]api.Point
	for last := first; len(last) > 0; {
		steps = append(steps, last)
		var next []api.Point
		for _, p := range last {
			for _, q := range around(p) {
				if joins(q) {
					next = append(next, q)
				}
			}
		}
		last = next
	}
	return steps
}

// Clusters returns the groups of failed dies that hang together.
func Clusters(w api.Wafer, least int) ([][]api.Point, api.Errno) {
	if e := CheckWafer(w); e != api.OK {
		return nil, e
	}
	if !numbers.AreWithin(1, api.MaxWafer*api.MaxWafer, least) {
		return nil, api.ErrArg
	}
	isNew := words.Fresh[api.Point]()
	joins := func(p api.Point) bool { return hasFailed(w, p) && isNew(p) }
	var groups [][]api.Point
	for _, first := range places(w, hasFailed) {
		if !isNew(first) {
			continue
		}
		group := slices.Concat(spread([]api.Point{first}, joins)...)
		if len(group) >= least {
			slices.SortFunc(group, inOrder)
			groups = append(groups, group)
		}
	}
	return groups, api.OK
}

// Rings returns the yields of the rings.
func Rings(w api.Wafer) ([]api.Fraction, []bool, api.Errno) {
	if e := CheckWafer(w); e != api.OK {
		return nil, nil, e
	}
	edge := edgeOf(w)
	isNew := words.Fresh(edge...)
	rings := spread(edge, func(p api.Point) bool { return isDie(w, p) && isNew(p) })
	parts, has := make([]api.Fraction, len(rings)), make([]bool, len(rings))
	for i, ring := range rings {
		parts[i], has[i] = yieldOf(w, ring)
		if !has[i] {
			parts[i] = ratio.Of(0, 1)
		}
	}
	return parts, has, api.OK
}
