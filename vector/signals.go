package vector

import (
	"strings"

	"scanchain/api"
)

// Clocks returns the number of all clocks.
func Clocks(l []api.Command) (int, api.Errno) {
	actions, e := actionsOf(l)
	return sumOf(actions, action.clocks), e
}

// Signals returns TMS, TDI, and what is expected of TDO.
func Signals(l []api.Command) (string, string, string, api.Errno) {
	actions, e := actionsOf(l)
	tms, tdi, tdo := signalsOf(actions)
	return tms, tdi, tdo, e
}

func signalsOf(actions []action) (string, string, string) {
	var tms, tdi, tdo strings.Builder
	for _, a := range actions {
		control, in, out := a.signals()
		tms.WriteString(control)
		tdi.WriteString(in)
		tdo.WriteString(out)
	}
	return tms.String(), tdi.String(), tdo.String()
}

// States returns the state after each command.
func States(l []api.Command) ([]int, api.Errno) {
	actions, e := actionsOf(l)
	var states []int
	for _, a := range actions {
		states = append(states, a.state)
	}
	return states, e
}

// Bits returns how many bits are shifted through each register.
func Bits(l []api.Command) (int, int, api.Errno) {
	actions, e := actionsOf(l)
	codes, data := 0, 0
	for i, a := range actions {
		if l[i].Kind == api.CommandScanIR {
			codes += len(a.shifted())
		} else {
			data += len(a.shifted())
		}
	}
	return codes, data, e
}

// Same reports whether two programs have the same signals.
func Same(a, b []api.Command) (bool, api.Errno) {
	tms, tdi, tdo, e := Signals(a)
	if e != api.OK {
		return false, e
	}
	otherTms, otherTdi, otherTdo, e := Signals(b)
	return e == api.OK && tms == otherTms && tdi == otherTdi && tdo == otherTdo, e
}
