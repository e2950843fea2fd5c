package fault

import (
	"scanchain/api"
	"scanchain/ratio"
	"scanchain/sets"
)

const mostKinds = 6

// All returns all single faults of some kinds.
func All(nets int, kinds []int) ([]api.Fault, api.Errno) {
	if e := checkNets(nets); e != api.OK {
		return nil, e
	}
	if e := checkKinds(kinds); e != api.OK {
		return nil, e
	}
	var all []api.Fault
	for _, kind := range kinds {
		all = append(all, allOf(kind, nets)...)
	}
	if len(all) > api.MaxFaults {
		return nil, api.ErrLarge
	}
	return all, api.OK
}

func checkKinds(kinds []int) api.Errno {
	if len(kinds) > mostKinds {
		return api.ErrLarge
	}
	for i, kind := range kinds {
		switch {
		case !isKind(kind):
			return api.ErrKind
		case i > 0 && kind <= kinds[i-1]:
			return api.ErrOrder
		}
	}
	return api.OK
}

// allOf returns all single faults of a kind.
func allOf(kind, nets int) []api.Fault {
	var all []api.Fault
	add := func(on ...int) {
		all = append(all, api.Fault{Kind: kind, Nets: on})
	}
	for a := range nets {
		if !isShort(kind) {
			add(a)
			continue
		}
		for b := range nets {
			if a < b || a > b && kind == api.FaultFirst {
				add(a, b)
			}
		}
	}
	return all
}

// Undetected returns the faults that a test does not detect.
func Undetected(t []string, f []api.Fault) ([]int, api.Errno) {
	by, e := detections(t, f)
	if e != api.OK {
		return nil, e
	}
	var undetected []int
	for i, vectors := range by {
		if vectors == 0 {
			undetected = append(undetected, i)
		}
	}
	return undetected, api.OK
}

// detections returns for each fault the vectors that detect it.
func detections(t []string, f []api.Fault) ([]sets.Set, api.Errno) {
	if e := check(t, f); e != api.OK {
		return nil, e
	}
	w := wire(t)
	var by []sets.Set
	for _, one := range f {
		by = append(by, w.detects(one))
	}
	return by, api.OK
}

// countDetected returns how many faults some vectors detect.
func countDetected(by []sets.Set, some sets.Set) int {
	count := 0
	for _, vectors := range by {
		if vectors&some != 0 {
			count++
		}
	}
	return count
}

// Coverage returns the part of faults that a test detects.
func Coverage(t []string, f []api.Fault) (api.Fraction, api.Errno) {
	by, e := detections(t, f)
	if e != api.OK {
		return api.Fraction{}, e
	}
	if len(f) == 0 {
		return api.Fraction{}, api.ErrNone
	}
	return ratio.Of(countDetected(by, sets.Before(len(t[0]))), len(f)), api.OK
}

// Groups returns the faults with one response.
func Groups(t []string, f []api.Fault) ([][]int, api.Errno) {
	if e := check(t, f); e != api.OK {
		return nil, e
	}
	w := wire(t)
	var groups [][]int
	known := map[difference]int{}
	for i, one := range f {
		response := w.difference(one)
		group, is := known[response]
		if !is {
			group = len(groups)
			known[response] = group
			groups = append(groups, nil)
		}
		groups[group] = append(groups[group], i)
	}
	return groups, api.OK
}

// difference is how a response differs from the test: nets that are changed, rising, and in which vectors. A change without vectors is none.
type difference [api.MaxShorted]struct {
	net int
	in  sets.Set
}

func (w wiring) difference(f api.Fault) difference {
	var d difference
	changes := 0
	for net, vectors := range w.changed(f) {
		d[changes].net, d[changes].in = net, vectors
		changes++
	}
	return d
}

// Resolution returns how many groups there are for each fault.
func Resolution(t []string, f []api.Fault) (api.Fraction, api.Errno) {
	groups, e := Groups(t, f)
	if e != api.OK {
		return api.Fraction{}, e
	}
	if len(f) == 0 {
		return api.Fraction{}, api.ErrNone
	}
	return ratio.Of(len(groups), len(f)), api.OK
}

// Curve returns how many faults the vectors up to each one detect.
func Curve(t []string, f []api.Fault) ([]int, api.Errno) {
	by, e := detections(t, f)
	if e != api.OK {
		return nil, e
	}
	var curve []int
	for vector := range len(t[0]) {
		curve = append(curve, countDetected(by, sets.Before(vector+1)))
	}
	return curve, api.OK
}
