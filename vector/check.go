// Package vector has programs that scan bits through a chain.
package vector

import (
	"scanchain/api"
	"scanchain/words"
)

// CheckCommands says what is wrong with commands.
func CheckCommands(l []api.Command) api.Errno {
	_, e := actionsOf(l)
	return e
}

// actionsOf returns what each command of a program does, or what is wrong with the program.
func actionsOf(l []api.Command) ([]action, api.Errno) {
	if len(l) > api.MaxCommands {
		return nil, api.ErrLarge
	}
	for _, c := range l {
		if e := checkCommand(c); e != api.OK {
			return nil, e
		}
	}
	m := start()
	actions := make([]action, len(l))
	for i, c := range l {
		actions[i] = m.do(c)
	}
	if sumOf(actions, action.clocks) > api.MaxClocks {
		return nil, api.ErrLarge
	}
	return actions, api.OK
}

func checkCommand(c api.Command) api.Errno {
	if !isKind(c.Kind) {
		return api.ErrKind
	}
	e, used := api.OK, api.Command{Kind: c.Kind}
	switch kinds[c.Kind].has {
	case hasState:
		e, used.State = checkState(c.State), c.State
	case hasClocks:
		e, used.Clocks = checkIdle(c.Clocks), c.Clocks
	case hasBits:
		e, used.Bits = checkBits(c.Bits), c.Bits
	case hasScan:
		e, used.Bits, used.Want, used.Mask = checkScan(c), c.Bits, c.Want, c.Mask
	}
	if e == api.OK && c != used {
		return api.ErrForm
	}
	return e
}

func checkState(state int) api.Errno {
	if !isStable(state) {
		return api.ErrArg
	}
	return api.OK
}

func checkIdle(clocks int) api.Errno {
	if clocks < 0 || clocks > api.MaxClocks {
		return api.ErrArg
	}
	return api.OK
}

func checkBits(bits string) api.Errno {
	switch {
	case !words.IsBits(bits):
		return api.ErrSyntax
	case len(bits) > api.MaxScan:
		return api.ErrLarge
	}
	return api.OK
}

func checkScan(c api.Command) api.Errno {
	if c.Bits == "" {
		return api.ErrNone
	}
	if e := checkBits(c.Bits); e != api.OK {
		return e
	}
	long := len(c.Bits)
	switch {
	case c.Want != "" && (len(c.Want) != long || len(c.Mask) != long):
		return api.ErrForm
	case !words.IsBits(c.Want), !words.IsBits(c.Mask):
		return api.ErrSyntax
	case c.Want == "" && c.Mask != "":
		return api.ErrForm
	}
	return api.OK
}
