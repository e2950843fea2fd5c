// Package fault has the responses of nets with faults, and what tests detect.
package fault

import (
	"slices"

	"scanchain/api"
	"scanchain/words"
)

// CheckTest says what is wrong with a test.
func CheckTest(t []string) api.Errno {
	switch {
	case len(t) == 0:
		return api.ErrNone
	case len(t) > api.MaxNets:
		return api.ErrLarge
	}
	for _, bits := range t {
		switch {
		case !words.IsBits(bits):
			return api.ErrForm
		case len(bits) > api.MaxTestLong:
			return api.ErrLarge
		case len(bits) != len(t[0]):
			return api.ErrForm
		}
	}
	return api.OK
}

// CheckFault says what is wrong with a fault.
func CheckFault(nets int, f api.Fault) api.Errno {
	if e := checkNets(nets); e != api.OK {
		return e
	}
	switch {
	case !isKind(f.Kind):
		return api.ErrKind
	case len(f.Nets) == 0:
		return api.ErrNone
	case len(f.Nets) > api.MaxShorted:
		return api.ErrLarge
	case slices.ContainsFunc(f.Nets, func(net int) bool { return net < 0 || net >= nets }):
		return api.ErrArg
	case isShort(f.Kind) != (len(f.Nets) > 1):
		return api.ErrForm
	}
	return checkOrder(f)
}

func checkNets(nets int) api.Errno {
	if nets < 1 || nets > api.MaxNets {
		return api.ErrArg
	}
	return api.OK
}

func isKind(kind int) bool {
	return api.FaultStuck0 <= kind && kind <= api.FaultOpen
}

func isShort(kind int) bool {
	return kind == api.FaultAnd || kind == api.FaultOr || kind == api.FaultFirst
}

// checkOrder is for a fault that has as many nets as its kind needs.
func checkOrder(f api.Fault) api.Errno {
	rising := f.Nets
	if f.Kind == api.FaultFirst {
		rising = f.Nets[1:]
	}
	for i := 1; i < len(rising); i++ {
		if rising[i] <= rising[i-1] {
			return api.ErrOrder
		}
	}
	if f.Kind == api.FaultFirst && slices.Contains(rising, f.Nets[0]) {
		return api.ErrTwice
	}
	return api.OK
}

// checkFaults says what is wrong with faults of so many nets.
func checkFaults(nets int, f []api.Fault) api.Errno {
	if len(f) > api.MaxFaults {
		return api.ErrLarge
	}
	for _, one := range f {
		if e := CheckFault(nets, one); e != api.OK {
			return e
		}
	}
	return api.OK
}
