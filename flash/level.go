package flash

import (
	"math"
	"slices"

	"scanchain/api"
	"scanchain/numbers"
)

const (
	mostWorn  = 1_000_000
	mostFiles = 8
)

// Level puts files into sectors.
func Level(f api.Flash, worn []int, sizes []int) ([]int, bool, api.Errno) {
	if e := CheckFlash(f); e != api.OK {
		return nil, false, e
	}
	switch {
	case len(worn) != len(f.Sectors):
		return nil, false, api.ErrForm
	case !numbers.AreWithin(0, mostWorn, worn...):
		return nil, false, api.ErrArg
	case len(sizes) > mostFiles:
		return nil, false, api.ErrLarge
	case !numbers.AreWithin(1, api.MaxWords, sizes...):
		return nil, false, api.ErrArg
	}
	sectors, is := leastWorn(f.Sectors, worn, sizes)
	return sectors, is, api.OK
}

// leastWorn returns the sectors of files, and true; false if not each file finds one.
func leastWorn(longs, worn, sizes []int) ([]int, bool) {
	// A way to place files is one number: the sum of what its sectors are worn, and after it, as a digit each, the sector of each file. So the best way is the least number.
	places := powersOf(len(longs), len(sizes))
	slices.Reverse(places)
	sumPlace, places := places[0], places[1:]

	const none = math.MaxInt
	all := 1<<len(sizes) - 1
	best := slices.Repeat([]int{none}, all+1) // for each set of files, with the sectors so far
	best[0] = 0
	for sector, long := range longs {
		// Falling, so that a sector is not given to two files.
		for files := all; files > 0; files-- {
			for file, size := range sizes {
				others := files &^ (1 << file)
				if others != files && size <= long && best[others] != none {
					best[files] = min(best[files], best[others]+worn[sector]*sumPlace+sector*places[file])
				}
			}
		}
	}
	if best[all] == none {
		return nil, false
	}
	sectors := make([]int, len(sizes))
	for file, place := range places {
		sectors[file] = best[all] / place % len(longs)
	}
	return sectors, true
}

// powersOf returns the powers of a base from the one of 0 to that of most.
func powersOf(base, most int) []int {
	powers := []int{1}
	for range most {
		powers = append(powers, powers[len(powers)-1]*base)
	}
	return powers
}
