package fault

import (
	"slices"

	"scanchain/api"
)

// Needed returns the vectors that alone detect a fault.
func Needed(t []string, f []api.Fault) ([]int, api.Errno) {
	by, e := detections(t, f)
	if e != api.OK {
		return nil, e
	}
	var needed set
	for _, vectors := range by {
		if vectors.count() == 1 {
			needed |= vectors
		}
	}
	return needed.list(), api.OK
}

// Reduced returns a test without vectors that are not needed.
func Reduced(t []string, f []api.Fault) ([]string, api.Errno) {
	by, e := detections(t, f)
	if e != api.OK {
		return nil, e
	}
	long := len(t[0])
	serves := servingAll(by)
	kept := before(long)
	for vector := long - 1; vector >= 0; vector-- {
		if without := kept &^ only(vector); serves(without) {
			kept = without
		}
	}
	var reduced []string
	for _, bits := range t {
		reduced = append(reduced, picked(bits, kept.list()))
	}
	return reduced, api.OK
}

// servingAll returns a function that reports whether some vectors detect all faults that any vectors detect.
func servingAll(by []set) func(some set) bool {
	different := slices.Compact(slices.Sorted(slices.Values(by)))
	return func(some set) bool {
		return !slices.ContainsFunc(different, func(vectors set) bool {
			return vectors != 0 && vectors&some == 0
		})
	}
}

// picked returns some bits of a string.
func picked(bits string, indices []int) string {
	var some []byte
	for _, i := range indices {
		some = append(some, bits[i])
	}
	return string(some)
}

// Smallest returns as few vectors as can be that detect what all detect.
func Smallest(t []string, f []api.Fault) ([]int, api.Errno) {
	by, e := detections(t, f)
	if e != api.OK {
		return nil, e
	}
	long := len(t[0])
	if long > api.MaxExact {
		return nil, api.ErrLarge
	}
	serves := servingAll(by)
	smallest := before(long)
	// Falling: of the sets with as many vectors, the one that comes first is the first one that is found.
	for choice := smallest; choice != 0; {
		choice = (choice - 1) & before(long)
		if choice.count() < smallest.count() && serves(choice) {
			smallest = choice
		}
	}
	return smallest.list(), api.OK
}
