package wafer

import (
	"cmp"

	"scanchain/api"
	"scanchain/numbers"
)

// CheckCard says what is wrong with a probe card.
func CheckCard(card []api.Point) api.Errno {
	if len(card) == 0 {
		return api.ErrNone
	}
	if len(card) > api.MaxSites {
		return api.ErrLarge
	}
	least := card[0]
	for i, site := range card {
		if !numbers.AreWithin(0, api.MaxWafer-1, site.X, site.Y) {
			return api.ErrArg
		}
		if i > 0 && inOrder(card[i-1], site) >= 0 {
			return api.ErrOrder
		}
		least = api.Point{X: min(least.X, site.X), Y: min(least.Y, site.Y)}
	}
	if least != (api.Point{}) {
		return api.ErrForm
	}
	return api.OK
}

// checkProbing says what is wrong with a wafer and a card.
func checkProbing(w api.Wafer, card []api.Point) api.Errno {
	return cmp.Or(CheckWafer(w), CheckCard(card))
}

// touchedAt returns the places that a touchdown touches, in order.
func touchedAt(card []api.Point, at api.Point) []api.Point {
	touched := make([]api.Point, len(card))
	for i, site := range card {
		touched[i] = api.Point{X: at.X + site.X, Y: at.Y + site.Y}
	}
	return touched
}

// touchdownOn returns where a card touches down so that a site touches a place.
func touchdownOn(p, site api.Point) api.Point {
	return api.Point{X: p.X - site.X, Y: p.Y - site.Y}
}

// Touched returns the untested dies that a touchdown touches.
func Touched(w api.Wafer, card []api.Point, at api.Point) ([]api.Point, int, api.Errno) {
	if e := checkProbing(w, card); e != api.OK {
		return nil, 0, e
	}
	if !numbers.AreWithin(1-api.MaxWafer, api.MaxWafer-1, at.X, at.Y) {
		return nil, 0, api.ErrArg
	}
	var dies []api.Point
	for _, p := range touchedAt(card, at) {
		if isUntested(w, p) {
			dies = append(dies, p)
		}
	}
	return dies, len(card) - len(dies), api.OK
}

// Rows plans touchdowns row by row.
func Rows(w api.Wafer, card []api.Point) ([]api.Point, int, api.Errno) {
	if e := checkProbing(w, card); e != api.OK {
		return nil, 0, e
	}
	var touchdowns []api.Point
	again := 0
	touched := map[api.Point]bool{}
	for _, die := range places(w, isUntested) {
		if touched[die] {
			continue
		}
		at := touchdownOn(die, card[0])
		touchdowns = append(touchdowns, at)
		for _, p := range touchedAt(card, at) {
			if isTested(w, p) || isUntested(w, p) && touched[p] {
				again++
			}
			touched[p] = true
		}
	}
	return touchdowns, again, api.OK
}
