package vector

import (
	"slices"
	"strings"

	"scanchain/api"
)

// Padded returns a program for a chain, of one for a device alone.
func Padded(d []api.Device, device string, l []api.Command) ([]api.Command, api.Errno) {
	if _, e := actionsFor(d, l); e != api.OK {
		return nil, e
	}
	at := slices.IndexFunc(d, func(one api.Device) bool { return one.Name == device })
	if at < 0 {
		return nil, api.ErrNone
	}
	pad := padding(d[:at], d[at+1:])
	var padded []api.Command
	for _, kind := range []int{api.CommandHeadIR, api.CommandTailIR, api.CommandHeadDR, api.CommandTailDR} {
		padded = append(padded, pad(api.Command{Kind: kind}))
	}
	for _, c := range l {
		padded = append(padded, pad(c))
	}
	if e := CheckCommands(padded); e != api.OK {
		return nil, e
	}
	return padded, api.OK
}

// padding returns a function that adds to heads and tails what puts the devices before and after one in bypass, and goes through them. What is shifted first gets farthest: it is for the devices after it.
func padding(before, after []api.Device) func(api.Command) api.Command {
	return func(c api.Command) api.Command {
		switch c.Kind {
		case api.CommandHeadIR:
			c.Bits = bypassCodes(after) + c.Bits
		case api.CommandTailIR:
			c.Bits += bypassCodes(before)
		case api.CommandHeadDR:
			c.Bits = bypassBits(after) + c.Bits
		case api.CommandTailDR:
			c.Bits += bypassBits(before)
		}
		return c
	}
}

func bypassCodes(d []api.Device) string {
	long := 0
	for _, device := range d {
		long += device.Long
	}
	return strings.Repeat("1", long)
}

func bypassBits(d []api.Device) string {
	return strings.Repeat("0", len(d))
}

// Without returns a program without commands without effect.
func Without(l []api.Command) ([]api.Command, api.Errno) {
	if e := CheckCommands(l); e != api.OK {
		return nil, e
	}
	m := start()
	var kept []api.Command
	for i, c := range l {
		if isSetting(c.Kind) && !isUsed(c.Kind, l[i+1:]) {
			continue
		}
		before := *m
		if m.do(c).clocks() > 0 || *m != before {
			kept = append(kept, c)
		}
	}
	return kept, api.OK
}

// isUsed reports whether a setting is for a scan among the commands that follow it.
func isUsed(setting int, following []api.Command) bool {
	scan := scanOf(setting)
	next := slices.IndexFunc(following, func(c api.Command) bool { return c.Kind == scan || c.Kind == setting })
	return next >= 0 && following[next].Kind == scan
}
