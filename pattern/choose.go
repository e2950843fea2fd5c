package pattern

import (
	"math"
	"slices"

	"scanchain/api"
)

const mostOrdered = 10

// Fewest returns as few vectors as can be with which as much is detected as with all.
func Fewest(nets int, v []string) ([]int, api.Errno) {
	s, e := Sequences(nets, v)
	if e != api.OK {
		return nil, e
	}
	if len(v) > api.MaxChosen {
		return nil, api.ErrLarge
	}
	needs := needsOf(s, len(v))
	fewest := ones(len(v))
	// The first vector is the highest digit: of choices of the same length, the lexicographically smallest one is the greatest number.
	for choice := fewest; choice >= 0; choice-- {
		if countOnes(choice) < countOnes(fewest) && fulfils(choice, needs) {
			fewest = choice
		}
	}
	return indicesOf(fewest, len(v)), api.OK
}

// needsOf returns sets of vectors: one vector of each must be there to detect as much as with all. A sequence is the set of the vectors in which its net is 1.
func needsOf(sequences []string, vectors int) []int {
	var sets, needs []int
	for _, sequence := range sequences {
		sets = append(sets, numberOf(sequence))
	}
	for _, high := range sets {
		low := ones(vectors) - high
		if high != 0 && low != 0 {
			needs = append(needs, high, low)
		}
	}
	for a, b := range pairs(len(sets)) {
		if sets[a] != sets[b] {
			needs = append(needs, sets[a]^sets[b])
		}
	}
	slices.Sort(needs)
	return slices.Compact(needs)
}

func fulfils(choice int, needs []int) bool {
	return !slices.ContainsFunc(needs, func(need int) bool { return need&choice == 0 })
}

// Order returns an order of vectors in which as few bits change as can be.
func Order(nets int, v []string) ([]int, int, api.Errno) {
	if e := CheckVectors(nets, v); e != api.OK {
		return nil, 0, e
	}
	if len(v) > mostOrdered {
		return nil, 0, api.ErrLarge
	}
	// No bits change from what comes before the first vector.
	before := len(v)
	best := stepper(len(v), func(from, to int) int {
		if from == before {
			return 0
		}
		return changes(v[from], v[to])
	})
	var order []int
	total := best(0, before).changes
	for done, last := 0, before; len(order) < len(v); {
		last = best(done, last).next
		done |= 1 << last
		order = append(order, last)
	}
	return order, total, api.OK
}

// step goes to the next vector; changes counts those of this step and of all that follow.
type step struct{ next, changes int }

// stepper returns a function that returns the best step from the last vector when a set of vectors is done; of several ones the one to the first vector.
func stepper(vectors int, changed func(from, to int) int) func(done, last int) step {
	known := map[[2]int]step{}
	var best func(done, last int) step
	best = func(done, last int) step {
		if done == ones(vectors) {
			return step{}
		}
		if s, is := known[[2]int{done, last}]; is {
			return s
		}
		least := step{changes: math.MaxInt}
		for next := range vectors {
			if done>>next&1 == 1 {
				continue
			}
			all := changed(last, next) + best(done|1<<next, next).changes
			if all < least.changes {
				least = step{next, all}
			}
		}
		known[[2]int{done, last}] = least
		return least
	}
	return best
}
