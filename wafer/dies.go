package wafer

import (
	"cmp"
	"slices"
	"strconv"
	"strings"

	"scanchain/api"
	"scanchain/ratio"
)

const mostAround = 8

// dieAt returns what is at a place; outside of the map there is no die.
func dieAt(w api.Wafer, p api.Point) byte {
	if !isPlace(w, p) {
		return api.DieNone
	}
	return w.Rows[p.Y][p.X]
}

func isPlace(w api.Wafer, p api.Point) bool {
	return 0 <= p.Y && p.Y < len(w.Rows) && 0 <= p.X && p.X < len(w.Rows[0])
}

func isDie(w api.Wafer, p api.Point) bool {
	return dieAt(w, p) != api.DieNone
}

func isUntested(w api.Wafer, p api.Point) bool {
	return dieAt(w, p) == api.DieUntested
}

func isTested(w api.Wafer, p api.Point) bool {
	return isDie(w, p) && !isUntested(w, p)
}

func hasPassed(w api.Wafer, p api.Point) bool {
	return isOneOf(w.Pass, dieAt(w, p))
}

func hasFailed(w api.Wafer, p api.Point) bool {
	return isOneOf(bins, dieAt(w, p)) && !hasPassed(w, p)
}

// places returns the places of a map that is accepts, in order.
func places(w api.Wafer, is func(w api.Wafer, p api.Point) bool) []api.Point {
	var found []api.Point
	for y, row := range w.Rows {
		for x := range len(row) {
			if p := (api.Point{X: x, Y: y}); is(w, p) {
				found = append(found, p)
			}
		}
	}
	return found
}

// count returns how many of some places is accepts.
func count(w api.Wafer, some []api.Point, is func(w api.Wafer, p api.Point) bool) int {
	n := 0
	for _, p := range some {
		if is(w, p) {
			n++
		}
	}
	return n
}

func inOrder(p, q api.Point) int {
	return cmp.Or(cmp.Compare(p.Y, q.Y), cmp.Compare(p.X, q.X))
}

// around returns the places around one.
func around(p api.Point) []api.Point {
	var found []api.Point
	for y := p.Y - 1; y <= p.Y+1; y++ {
		for x := p.X - 1; x <= p.X+1; x++ {
			if q := (api.Point{X: x, Y: y}); q != p {
				found = append(found, q)
			}
		}
	}
	return found
}

// Counts returns how many dies each bin has, how many are inked, and how many are untested.
func Counts(w api.Wafer) ([]api.Pair, int, int, api.Errno) {
	if e := CheckWafer(w); e != api.OK {
		return nil, 0, 0, e
	}
	dies := strings.Join(w.Rows, "")
	var pairs []api.Pair
	for _, bin := range bins {
		if n := strings.Count(dies, string(bin)); n > 0 {
			pairs = append(pairs, api.Pair{Name: string(bin), Value: strconv.Itoa(n)})
		}
	}
	return pairs, strings.Count(dies, string(api.DieInked)), strings.Count(dies, string(api.DieUntested)), api.OK
}

// Yield returns the part of tested dies that passed.
func Yield(w api.Wafer) (api.Fraction, bool, api.Errno) {
	if e := CheckWafer(w); e != api.OK {
		return api.Fraction{}, false, e
	}
	part, is := yieldOf(w, places(w, isTested))
	return part, is, api.OK
}

// yieldOf returns the part of the tested ones of some dies that passed, and true; false if none is tested.
func yieldOf(w api.Wafer, dies []api.Point) (api.Fraction, bool) {
	tested := count(w, dies, isTested)
	if tested == 0 {
		return api.Fraction{}, false
	}
	return ratio.Of(count(w, dies, hasPassed), tested), true
}

// Failed returns how many neighbours of a die failed.
func Failed(w api.Wafer, p api.Point) (int, api.Errno) {
	if e := CheckWafer(w); e != api.OK {
		return 0, e
	}
	if !isPlace(w, p) {
		return 0, api.ErrArg
	}
	if !isDie(w, p) {
		return 0, api.ErrNone
	}
	return failedAround(w, p), api.OK
}

func failedAround(w api.Wafer, p api.Point) int {
	return count(w, around(p), hasFailed)
}

// Edge returns the dies at the edge.
func Edge(w api.Wafer) ([]api.Point, api.Errno) {
	if e := CheckWafer(w); e != api.OK {
		return nil, e
	}
	return edgeOf(w), api.OK
}

func edgeOf(w api.Wafer) []api.Point {
	return slices.DeleteFunc(places(w, isDie), func(p api.Point) bool {
		return count(w, around(p), isDie) == mostAround
	})
}
