package fault

import (
	"iter"

	"scanchain/api"
	"scanchain/sets"
)

// wiring is what the receivers of each net see in a test: the vectors in which it is 1.
type wiring struct {
	long int
	on   []sets.Set
}

// wire is for a valid test.
func wire(t []string) wiring {
	w := wiring{long: len(t[0])}
	for _, bits := range t {
		w.on = append(w.on, sets.Of(bits))
	}
	return w
}

// common returns what all nets of a fault have; with FaultFirst it is what the first one has.
func (w wiring) common(f api.Fault) sets.Set {
	value := w.on[f.Nets[0]]
	for _, net := range f.Nets {
		switch f.Kind {
		case api.FaultStuck0:
			value = 0
		case api.FaultStuck1, api.FaultOpen:
			value = sets.Before(w.long)
		case api.FaultAnd:
			value &= w.on[net]
		case api.FaultOr:
			value |= w.on[net]
		}
	}
	return value
}

// changed goes through the nets that a fault changes, in rising order, with the vectors in which it does.
func (w wiring) changed(f api.Fault) iter.Seq2[int, sets.Set] {
	value := w.common(f)
	return func(yield func(int, sets.Set) bool) {
		// The one net that may not be in its place is the first one of FaultFirst, which keeps what it has.
		for _, net := range f.Nets {
			if vectors := value ^ w.on[net]; vectors != 0 && !yield(net, vectors) {
				return
			}
		}
	}
}

// detects returns the vectors that detect a fault.
func (w wiring) detects(f api.Fault) sets.Set {
	var all sets.Set
	for _, vectors := range w.changed(f) {
		all |= vectors
	}
	return all
}

// Response returns the response to a test with a fault.
func Response(t []string, f api.Fault) ([]string, api.Errno) {
	return Combined(t, []api.Fault{f})
}

// Combined returns the response to a test with several faults.
func Combined(t []string, f []api.Fault) ([]string, api.Errno) {
	if e := check(t, f); e != api.OK {
		return nil, e
	}
	w := wire(t)
	for _, one := range f {
		for net, vectors := range w.changed(one) {
			w.on[net] ^= vectors
		}
	}
	var response []string
	for _, ones := range w.on {
		response = append(response, ones.Text(w.long))
	}
	return response, api.OK
}

func check(t []string, f []api.Fault) api.Errno {
	if e := CheckTest(t); e != api.OK {
		return e
	}
	return checkFaults(len(t), f)
}

// Detects reports whether a test detects a fault.
func Detects(t []string, f api.Fault) (bool, api.Errno) {
	_, does, e := First(t, f)
	return does, e
}

// First returns the first vector that detects a fault.
func First(t []string, f api.Fault) (int, bool, api.Errno) {
	if e := check(t, []api.Fault{f}); e != api.OK {
		return 0, false, e
	}
	vectors := wire(t).detects(f)
	if vectors == 0 {
		return 0, false, api.OK
	}
	return vectors.First(), true, api.OK
}
