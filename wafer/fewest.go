package wafer

import (
	"slices"

	"scanchain/api"
	"scanchain/sets"
)

// touchdown is a place for the card, and the numbers of the untested dies that it touches there.
type touchdown struct {
	at   api.Point
	dies sets.Set
}

// plan is touchdowns, in order; is says whether there is a plan.
type plan struct {
	touchdowns []api.Point
	is         bool
}

// with returns a plan with one touchdown more.
func (p plan) with(at api.Point) plan {
	i, _ := slices.BinarySearchFunc(p.touchdowns, at, inOrder)
	return plan{touchdowns: slices.Insert(slices.Clone(p.touchdowns), i, at), is: true}
}

// comesBefore reports whether a plan has fewer touchdowns than another one, or as many and is the first one of both.
func (p plan) comesBefore(other plan) bool {
	if len(p.touchdowns) != len(other.touchdowns) {
		return len(p.touchdowns) < len(other.touchdowns)
	}
	return slices.CompareFunc(p.touchdowns, other.touchdowns, inOrder) < 0
}

// Fewest plans as few touchdowns as can be.
func Fewest(w api.Wafer, card []api.Point) ([]api.Point, bool, api.Errno) {
	if e := checkProbing(w, card); e != api.OK {
		return nil, false, e
	}
	dies := places(w, isUntested)
	if len(dies) > api.MaxTouched {
		return nil, false, api.ErrLarge
	}
	best := planner(choices(w, card, dies))(sets.Before(len(dies)))
	return best.touchdowns, best.is, api.OK
}

// choices returns for each die the touchdowns that touch it, and no tested die.
func choices(w api.Wafer, card, dies []api.Point) [][]touchdown {
	numberOf := map[api.Point]int{}
	for number, die := range dies {
		numberOf[die] = number
	}
	found := make([][]touchdown, len(dies))
	for number, die := range dies {
		for _, site := range card {
			choice := touchdown{at: touchdownOn(die, site)}
			touched := touchedAt(card, choice.at)
			if count(w, touched, isTested) > 0 {
				continue
			}
			for _, p := range touched {
				if other, is := numberOf[p]; is {
					choice.dies |= sets.Only(other)
				}
			}
			found[number] = append(found[number], choice)
		}
	}
	return found
}

// planner returns a function that returns the best plan that touches each of some dies once, and no other one.
func planner(touchdowns [][]touchdown) func(dies sets.Set) plan {
	known := map[sets.Set]plan{0: {is: true}}
	var planFor func(dies sets.Set) plan
	planFor = func(dies sets.Set) plan {
		if found, is := known[dies]; is {
			return found
		}
		var best plan
		// The best plan with a touchdown is the best plan for the dies that it leaves, with it: two plans with as many touchdowns stay in their order if both get the same one.
		for _, choice := range touchdowns[dies.First()] {
			if choice.dies&^dies != 0 {
				continue
			}
			rest := planFor(dies &^ choice.dies)
			if !rest.is {
				continue
			}
			if all := rest.with(choice.at); !best.is || all.comesBefore(best) {
				best = all
			}
		}
		known[dies] = best
		return best
	}
	return planFor
}
