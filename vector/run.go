package vector

import (
	"slices"
	"strings"

	"scanchain/api"
	"scanchain/tap"
)

// Run runs a program.
func Run(d []api.Device, l []api.Command) ([]string, api.Errno) {
	_, outputs, e := ran(d, l)
	return outputs, e
}

// ran returns what the commands of a program do, and what comes out at the bits of each one.
func ran(d []api.Device, l []api.Command) ([]action, []string, api.Errno) {
	actions, e := actionsFor(d, l)
	if e != api.OK {
		return nil, nil, e
	}
	tms, tdi, _ := signalsOf(actions)
	// The checks of devices and commands leave no error.
	tdo, _ := tap.Run(d, tms, tdi)
	var outputs []string
	for _, a := range actions {
		bits := tdo[a.first():]
		outputs = append(outputs, bits[:len(a.bits)])
		tdo = tdo[a.clocks():]
	}
	return actions, outputs, api.OK
}

// actionsFor returns what each command of a program does, or what is wrong with devices or the program.
func actionsFor(d []api.Device, l []api.Command) ([]action, api.Errno) {
	if e := tap.CheckDevices(d); e != api.OK {
		return nil, e
	}
	return actionsOf(l)
}

// Failed returns the scans that fail, and with how many bits.
func Failed(d []api.Device, l []api.Command) ([]int, []int, api.Errno) {
	actions, outputs, e := ran(d, l)
	var failed, counts []int
	for i, a := range actions {
		if wrong := wrongBits(a.expected(), outputs[i]); wrong > 0 {
			failed = append(failed, i)
			counts = append(counts, wrong)
		}
	}
	return failed, counts, e
}

func wrongBits(expected, output string) int {
	wrong := 0
	for i := range len(expected) {
		if expected[i] != 'x' && expected[i] != output[i] {
			wrong++
		}
	}
	return wrong
}

// Learned returns a program that wants what comes out.
func Learned(d []api.Device, l []api.Command) ([]api.Command, api.Errno) {
	_, outputs, e := ran(d, l)
	if e != api.OK {
		return nil, e
	}
	learned := slices.Clone(l)
	for i, output := range outputs {
		learned[i].Want = output
		learned[i].Mask = strings.Repeat("1", len(output))
	}
	return learned, api.OK
}
