package wafer

import (
	"scanchain/api"
	"scanchain/numbers"
	"scanchain/ratio"
)

const maxDen = 1_000_000

// Repeats returns the places of a mask at which dies fail too often.
func Repeats(w api.Wafer, wide, high int, least api.Fraction) ([]api.Point, api.Errno) {
	if e := CheckWafer(w); e != api.OK {
		return nil, e
	}
	if e := checkMask(wide, high, least); e != api.OK {
		return nil, e
	}
	tested, failed := map[api.Point]int{}, map[api.Point]int{}
	for _, p := range places(w, isTested) {
		within := api.Point{X: p.X % wide, Y: p.Y % high}
		tested[within]++
		if hasFailed(w, p) {
			failed[within]++
		}
	}
	// A mask that is larger than the wafer has no tested dies at the places that the wafer has not.
	return places(w, func(_ api.Wafer, p api.Point) bool {
		return tested[p] > 0 && failed[p]*least.Den >= least.Num*tested[p]
	}), api.OK
}

func checkMask(wide, high int, least api.Fraction) api.Errno {
	switch {
	case !numbers.AreWithin(1, api.MaxWafer, wide, high):
		return api.ErrArg
	case !ratio.IsLowest(least):
		return api.ErrForm
	case !numbers.AreWithin(0, least.Den, least.Num), least.Den > maxDen:
		return api.ErrArg
	}
	return api.OK
}
