package fault

import (
	"scanchain/api"
	"scanchain/sets"
)

// Needed returns the vectors that alone detect a fault.
func Needed(t []string, f []api.Fault) ([]int, api.Errno) {
	by, e := detections(t, f)
	if e != api.OK {
		return nil, e
	}
	var needed sets.Set
	for _, vectors := range by {
		if vectors.Count() == 1 {
			needed |= vectors
		}
	}
	return needed.List(), api.OK
}

// Reduced returns a test without vectors that are not needed.
func Reduced(t []string, f []api.Fault) ([]string, api.Errno) {
	by, e := detections(t, f)
	if e != api.OK {
		return nil, e
	}
	long := len(t[0])
	serves := sets.Meeting(by)
	kept := sets.Before(long)
	for vector := long - 1; vector >= 0; vector-- {
		if without := kept &^ sets.Only(vector); serves(without) {
			kept = without
		}
	}
	var reduced []string
	for _, bits := range t {
		reduced = append(reduced, picked(bits, kept.List()))
	}
	return reduced, api.OK
}

// picked returns some bits of a string.
func picked(bits string, indices []int) string {
	var some []byte
	for _, i := range indices {
		some = append(some, bits[i])
	}
	return string(some)
}

// Smallest returns as few vectors as can be that detect what all detect.
func Smallest(t []string, f []api.Fault) ([]int, api.Errno) {
	by, e := detections(t, f)
	if e != api.OK {
		return nil, e
	}
	long := len(t[0])
	if long > api.MaxExact {
		return nil, api.ErrLarge
	}
	return sets.Fewest(long, by), api.OK
}
