package wafer

import (
	"cmp"

	"scanchain/api"
	"scanchain/numbers"
)

// drawn returns a wafer with what dieOf returns for each place.
func drawn(wide, high int, pass string, dieOf func(p api.Point) byte) api.Wafer {
	rows := make([]string, high)
	for y := range rows {
		row := make([]byte, wide)
		for x := range row {
			row[x] = dieOf(api.Point{X: x, Y: y})
		}
		rows[y] = string(row)
	}
	return api.Wafer{Rows: rows, Pass: pass}
}

// Ink returns the wafer in which good dies in bad neighbourhoods are inked.
func Ink(w api.Wafer, many int) (api.Wafer, int, api.Errno) {
	if e := CheckWafer(w); e != api.OK {
		return api.Wafer{}, 0, e
	}
	if !numbers.AreWithin(1, mostAround, many) {
		return api.Wafer{}, 0, api.ErrArg
	}
	inked := 0
	changed := drawn(len(w.Rows[0]), len(w.Rows), w.Pass, func(p api.Point) byte {
		if !hasPassed(w, p) || failedAround(w, p) < many {
			return dieAt(w, p)
		}
		inked++
		return api.DieInked
	})
	return changed, inked, api.OK
}

// Turned returns the wafer turned clockwise.
func Turned(w api.Wafer) (api.Wafer, api.Errno) {
	if e := CheckWafer(w); e != api.OK {
		return api.Wafer{}, e
	}
	high := len(w.Rows)
	return drawn(high, len(w.Rows[0]), w.Pass, func(p api.Point) byte {
		return dieAt(w, api.Point{X: p.Y, Y: high - 1 - p.X})
	}), api.OK
}

// checkBoth says what is wrong with two wafers, and whether they do not fit.
func checkBoth(a, b api.Wafer) api.Errno {
	if e := cmp.Or(CheckWafer(a), CheckWafer(b)); e != api.OK {
		return e
	}
	if len(a.Rows) != len(b.Rows) || len(a.Rows[0]) != len(b.Rows[0]) || a.Pass != b.Pass {
		return api.ErrForm
	}
	return api.OK
}

// Merge returns a wafer with the results of both.
func Merge(a, b api.Wafer) (api.Wafer, api.Errno) {
	if e := checkBoth(a, b); e != api.OK {
		return api.Wafer{}, e
	}
	conflicts := 0
	merged := drawn(len(a.Rows[0]), len(a.Rows), a.Pass, func(p api.Point) byte {
		x, y := dieAt(a, p), dieAt(b, p)
		switch {
		case x == y, y == api.DieUntested:
			return x
		case x != api.DieUntested:
			conflicts++
		}
		return y
	})
	if conflicts > 0 {
		return api.Wafer{}, api.ErrConflict
	}
	return merged, api.OK
}

// Changes returns the places at which two wafers differ.
func Changes(a, b api.Wafer) ([]api.Point, api.Errno) {
	if e := checkBoth(a, b); e != api.OK {
		return nil, e
	}
	return places(a, func(a api.Wafer, p api.Point) bool {
		return dieAt(a, p) != dieAt(b, p)
	}), api.OK
}
