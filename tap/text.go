package tap

import (
	"strconv"

	"scanchain/api"
	"scanchain/words"
)

// Text writes a line for each device, register and instruction.
func Text(d []api.Device) (string, api.Errno) {
	if e := CheckDevices(d); e != api.OK {
		return "", e
	}
	// The limits of devices leave the text shorter than MaxText; the document names ErrLarge all the same.
	return words.Write(func(line func(...string)) {
		for _, device := range d {
			line("device", device.Name, strconv.Itoa(device.Long), strconv.Itoa(device.Id))
			for _, r := range device.Registers {
				line("register", r.Name, strconv.Itoa(r.Long))
			}
			for _, instr := range device.Instrs {
				line("instr", instr.Code, instr.Register)
			}
		}
	})
}

// Read reads devices.
func Read(text string) ([]api.Device, int, api.Errno) {
	if len(text) > api.MaxText {
		return nil, 0, api.ErrLarge
	}
	var d []api.Device
	number, good := words.Lines(text, func(line string) bool {
		more, has := withLine(d, line)
		d = more
		return has
	})
	if !good {
		return nil, number, api.ErrSyntax
	}
	if e := CheckDevices(d); e != api.OK {
		return nil, 0, e
	}
	return d, 0, api.OK
}

// withLine returns devices with what a line adds to them, and true; false if it is not a line of devices, or not in its place.
func withLine(d []api.Device, line string) ([]api.Device, bool) {
	parts, good := words.Split(line)
	if !good {
		return nil, false
	}
	if parts[0] == "device" {
		device, good := readDevice(parts)
		return append(d, device), good
	}
	if len(d) == 0 {
		return nil, false
	}
	last := &d[len(d)-1]
	switch {
	case parts[0] == "register" && len(parts) == 3 && len(last.Instrs) == 0:
		long, good := words.Number(parts[2])
		last.Registers = append(last.Registers, api.Register{Name: parts[1], Long: long})
		return d, good
	case parts[0] == "instr" && len(parts) == 3:
		last.Instrs = append(last.Instrs, api.Instr{Code: parts[1], Register: parts[2]})
		return d, true
	}
	return nil, false
}

func readDevice(parts []string) (api.Device, bool) {
	if len(parts) != 4 {
		return api.Device{}, false
	}
	long, isLong := words.Number(parts[2])
	id, isId := words.Number(parts[3])
	return api.Device{Name: parts[1], Long: long, Id: id}, isLong && isId
}
