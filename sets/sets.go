// Package sets has sets of up to 64 things, and chooses as few things as can be.
package sets

import (
	"math/bits"
	"slices"
)

// most is how many things there can be.
const most = 64

// Set is some things, by their numbers. Thing 0 is the highest bit: of two sets with as many things, the greater number comes first, compared thing by thing.
type Set uint64

// Only returns the set of one thing.
func Only(thing int) Set {
	return 1 << (most - 1 - thing)
}

// Before returns all things before one.
func Before(thing int) Set {
	return ^Set(0) << (most - thing)
}

// Of returns the places at which a bit string has a 1.
func Of(text string) Set {
	var s Set
	for thing, bit := range text {
		if bit == '1' {
			s |= Only(thing)
		}
	}
	return s
}

// Text returns the bit string of a length that has a 1 at each place of a set.
func (s Set) Text(long int) string {
	text := make([]byte, long)
	for thing := range text {
		text[thing] = '0'
		if s&Only(thing) != 0 {
			text[thing] = '1'
		}
	}
	return string(text)
}

// First returns the first thing of a set that is not empty.
func (s Set) First() int {
	return bits.LeadingZeros64(uint64(s))
}

// Count returns how many things a set has.
func (s Set) Count() int {
	return bits.OnesCount64(uint64(s))
}

// List returns the things of a set, rising.
func (s Set) List() []int {
	var things []int
	for s != 0 {
		thing := s.First()
		things = append(things, thing)
		s &^= Only(thing)
	}
	return things
}

// Meeting returns a function that reports whether a set has a thing of each need that is not empty.
func Meeting(needs []Set) func(s Set) bool {
	different := slices.Compact(slices.Sorted(slices.Values(needs)))
	return func(s Set) bool {
		return !slices.ContainsFunc(different, func(need Set) bool {
			return need != 0 && need&s == 0
		})
	}
}

// Fewest returns as few of the things before one as can be, rising, with which there is a thing of each need that is not empty; of several such lists the one that is lexicographically smallest.
func Fewest(before int, needs []Set) []int {
	all := Before(before)
	meets := Meeting(needs)
	fewest := all
	// Falling: of the sets with as many things, the one that comes first is the first one that is found.
	for choice := all; choice != 0; {
		choice = (choice - 1) & all
		if choice.Count() < fewest.Count() && meets(choice) {
			fewest = choice
		}
	}
	return fewest.List()
}
