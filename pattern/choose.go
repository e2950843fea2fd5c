package pattern

import (
	"math"

	"scanchain/api"
	"scanchain/sets"
)

const mostOrdered = 10

// Fewest returns as few vectors as can be with which as much is detected as with all.
func Fewest(nets int, v []string) ([]int, api.Errno) {
	s, e := Sequences(nets, v)
	if e != api.OK {
		return nil, e
	}
	if len(v) > api.MaxChosen {
		return nil, api.ErrLarge
	}
	return sets.Fewest(len(v), needsOf(s, len(v))), api.OK
}

// needsOf returns sets of vectors: one vector of each that is not empty must be there to detect as much as with all.
func needsOf(sequences []string, vectors int) []sets.Set {
	var highs, needs []sets.Set
	for _, sequence := range sequences {
		high := sets.Of(sequence)
		low := sets.Before(vectors) &^ high
		if high != 0 && low != 0 {
			needs = append(needs, high, low)
		}
		highs = append(highs, high)
	}
	for a, b := range pairs(len(highs)) {
		needs = append(needs, highs[a]^highs[b])
	}
	return needs
}

// Order returns an order of vectors in which as few bits change as can be.
func Order(nets int, v []string) ([]int, int, api.Errno) {
	if e := CheckVectors(nets, v); e != api.OK {
		return nil, 0, e
	}
	if len(v) > mostOrdered {
		return nil, 0, api.ErrLarge
	}
	// No bits change from what comes before the first vector.
	before := len(v)
	best := stepper(len(v), func(from, to int) int {
		if from == before {
			return 0
		}
		return changes(v[from], v[to])
	})
	var order []int
	total := best(0, before).changes
	for done, last := 0, before; len(order) < len(v); {
		last = best(done, last).next
		done |= 1 << last
		order = append(order, last)
	}
	return order, total, api.OK
}

// step goes to the next vector; changes counts those of this step and of all that follow.
type step struct{ next, changes int }

// stepper returns a function that returns the best step from the last vector when a set of vectors is done; of several ones the one to the first vector.
func stepper(vectors int, changed func(from, to int) int) func(done, last int) step {
	known := map[[2]int]step{}
	var best func(done, last int) step
	best = func(done, last int) step {
		if done == ones(vectors) {
			return step{}
		}
		if s, is := known[[2]int{done, last}]; is {
			return s
		}
		least := step{changes: math.MaxInt}
		for next := range vectors {
			if done>>next&1 == 1 {
				continue
			}
			all := changed(last, next) + best(done|1<<next, next).changes
			if all < least.changes {
				least = step{next, all}
			}
		}
		known[[2]int{done, last}] = least
		return least
	}
	return best
}
