package tap

import (
	"strings"

	"scanchain/api"
	"scanchain/words"
)

// The data registers that every device has, or can have, besides its Registers.
const (
	bypass     = "bypass"
	idcode     = "idcode"
	bypassLong = 1
	idcodeLong = 32
)

const (
	leastInstr = 2
	maxInstrs  = 100
	maxId      = 1<<idcodeLong - 1
)

// CheckDevices says what is wrong with devices.
func CheckDevices(d []api.Device) api.Errno {
	if len(d) == 0 {
		return api.ErrNone
	}
	if len(d) > api.MaxDevices {
		return api.ErrLarge
	}
	isNew := words.Fresh[string]()
	for _, device := range d {
		if e := checkDevice(device, isNew); e != api.OK {
			return e
		}
	}
	return api.OK
}

func checkDevice(d api.Device, isNew func(string) bool) api.Errno {
	switch {
	case !words.IsKey(d.Name):
		return api.ErrName
	case !isNew(d.Name):
		return api.ErrTwice
	case d.Long < leastInstr || d.Long > api.MaxInstr || d.Id < 0 || d.Id > maxId:
		return api.ErrArg
	case d.Id != 0 && d.Id%2 == 0:
		return api.ErrForm
	case len(d.Registers) > api.MaxRegisters || len(d.Instrs) > maxInstrs:
		return api.ErrLarge
	}
	if e := checkRegisters(d.Registers); e != api.OK {
		return e
	}
	return checkInstrs(d)
}

func checkRegisters(registers []api.Register) api.Errno {
	isNew := words.Fresh(bypass, idcode)
	for _, r := range registers {
		switch {
		case !words.IsKey(r.Name):
			return api.ErrName
		case !isNew(r.Name):
			return api.ErrTwice
		case r.Long < 1 || r.Long > api.MaxRegister:
			return api.ErrArg
		}
	}
	return api.OK
}

func checkInstrs(d api.Device) api.Errno {
	longs := registerLongs(d)
	isNew := words.Fresh[string]()
	for _, instr := range d.Instrs {
		if e := checkCode(instr.Code, d.Long); e != api.OK {
			return e
		}
		if !strings.Contains(instr.Code, "0") {
			return api.ErrRule
		}
		if !isNew(instr.Code) {
			return api.ErrTwice
		}
		if _, known := longs[instr.Register]; !known {
			return api.ErrNone
		}
	}
	return api.OK
}

// checkCode says what is wrong with the bits of a register that is long bits long.
func checkCode(bits string, long int) api.Errno {
	if len(bits) != long {
		return api.ErrForm
	}
	if !words.IsBits(bits) {
		return api.ErrSyntax
	}
	return api.OK
}

// registerLongs returns the lengths of all data registers of a device, by name.
func registerLongs(d api.Device) map[string]int {
	longs := map[string]int{bypass: bypassLong}
	if d.Id != 0 {
		longs[idcode] = idcodeLong
	}
	for _, r := range d.Registers {
		longs[r.Name] = r.Long
	}
	return longs
}

// codeRegisters returns the names of the registers that the codes of a device select.
func codeRegisters(d api.Device) map[string]string {
	registers := map[string]string{}
	for _, instr := range d.Instrs {
		registers[instr.Code] = instr.Register
	}
	return registers
}

// registerOf returns the name of the register that an instruction selects.
func registerOf(registers map[string]string, code string) string {
	if name, known := registers[code]; known {
		return name
	}
	return bypass
}

// Selected returns the register that an instruction selects.
func Selected(d api.Device, code string) (api.Register, api.Errno) {
	if e := CheckDevices([]api.Device{d}); e != api.OK {
		return api.Register{}, e
	}
	if e := checkCode(code, d.Long); e != api.OK {
		return api.Register{}, e
	}
	name := registerOf(codeRegisters(d), code)
	return api.Register{Name: name, Long: registerLongs(d)[name]}, api.OK
}
