package tap

import (
	"math"
	"strconv"
	"strings"
	"testing"

	"scanchain/api"
)

// twoDevices are different in all that a device can have.
func twoDevices() []api.Device {
	return []api.Device{
		{
			Name: "u1", Long: 3, Id: 5,
			Registers: []api.Register{{Name: "data", Long: 2}, {Name: "more", Long: 4}},
			Instrs:    []api.Instr{{Code: "010", Register: "data"}, {Code: "110", Register: "more"}, {Code: "001", Register: "idcode"}, {Code: "100", Register: "bypass"}, {Code: "000", Register: "data"}},
		},
		{
			Name: "u2", Long: 2,
			Registers: []api.Register{{Name: "data", Long: 3}},
			Instrs:    []api.Instr{{Code: "10", Register: "data"}},
		},
	}
}

func manyDevices(n int) []api.Device {
	var d []api.Device
	for i := range n {
		d = append(d, api.Device{Name: "u" + strconv.Itoa(i), Long: 2})
	}
	return d
}

func manyRegisters(n int) []api.Register {
	var r []api.Register
	for i := range n {
		r = append(r, api.Register{Name: "r" + strconv.Itoa(i), Long: 1})
	}
	return r
}

func manyInstrs(n int) []api.Instr {
	var l []api.Instr
	for i := range n {
		l = append(l, api.Instr{Code: strconv.FormatInt(int64(1<<8+i), 2)[1:], Register: "bypass"})
	}
	return l
}

// largestDevices have as much as the limits allow.
func largestDevices() []api.Device {
	name := func(i int) string { return strings.Repeat("n", api.MaxName-3) + strconv.Itoa(100+i) }
	var d []api.Device
	for i := range api.MaxDevices {
		device := api.Device{Name: name(i), Long: api.MaxInstr, Id: math.MaxUint32}
		for j := range api.MaxRegisters {
			device.Registers = append(device.Registers, api.Register{Name: name(j), Long: api.MaxRegister})
		}
		for j := range 100 {
			code := strings.Repeat("0", 24) + strconv.FormatInt(int64(1<<8+j), 2)[1:]
			device.Instrs = append(device.Instrs, api.Instr{Code: code, Register: name(j % api.MaxRegisters)})
		}
		d = append(d, device)
	}
	return d
}

// wrongList is devices that CheckDevices does not accept; the later errors of its list are there as well where that is possible.
type wrongList struct {
	what string
	want api.Errno
	d    []api.Device
}

func wrongDevices() []wrongList {
	with := func(change func(d *api.Device)) []api.Device {
		d := twoDevices()
		change(&d[0])
		d[1].Name = "U"
		return d
	}
	return []wrongList{
		{"nil", api.ErrNone, nil},
		{"empty", api.ErrNone, []api.Device{}},
		{"too many", api.ErrLarge, append(manyDevices(20), api.Device{})},
		{"name", api.ErrName, with(func(d *api.Device) { d.Name, d.Long = "1", 1 })},
		{"no name", api.ErrName, with(func(d *api.Device) { d.Name = "" })},
		{"same name", api.ErrTwice, []api.Device{{Name: "u", Long: 2}, {Name: "v", Long: 2}, {Name: "u"}}},
		{"short", api.ErrArg, with(func(d *api.Device) { d.Long, d.Id = 1, 2 })},
		{"long", api.ErrArg, with(func(d *api.Device) { d.Long = 33 })},
		{"least long", api.ErrArg, with(func(d *api.Device) { d.Long = math.MinInt })},
		{"id below 0", api.ErrArg, with(func(d *api.Device) { d.Id = -1 })},
		{"large id", api.ErrArg, with(func(d *api.Device) { d.Id = math.MaxUint32 + 1 })},
		{"largest id", api.ErrArg, with(func(d *api.Device) { d.Id = math.MaxInt })},
		{"even id", api.ErrForm, with(func(d *api.Device) { d.Id, d.Registers = 2, make([]api.Register, 11) })},
		{"many registers", api.ErrLarge, with(func(d *api.Device) { d.Registers = make([]api.Register, 11) })},
		{"many instructions", api.ErrLarge, with(func(d *api.Device) { d.Instrs, d.Registers = make([]api.Instr, 101), make([]api.Register, 1) })},
		{"register name", api.ErrName, with(func(d *api.Device) { d.Registers[1] = api.Register{Name: "Bypass"} })},
		{"register bypass", api.ErrTwice, with(func(d *api.Device) { d.Registers[0] = api.Register{Name: "bypass"} })},
		{"register idcode", api.ErrTwice, with(func(d *api.Device) { d.Registers[0] = api.Register{Name: "idcode"} })},
		{"register idcode without id", api.ErrTwice, []api.Device{{Name: "u", Long: 2, Registers: []api.Register{{Name: "idcode", Long: 1}}}}},
		{"register twice", api.ErrTwice, with(func(d *api.Device) { d.Registers[1] = api.Register{Name: "data"} })},
		{"register without bits", api.ErrArg, with(func(d *api.Device) { d.Registers[1].Long, d.Instrs[0].Code = 0, "" })},
		{"long register", api.ErrArg, with(func(d *api.Device) {
			d.Registers[0] = api.Register{Name: "data", Long: 1_001}
			d.Registers[1].Name = ""
		})},
		{"short code", api.ErrForm, with(func(d *api.Device) { d.Instrs[0].Code = "xx" })},
		{"long code", api.ErrForm, with(func(d *api.Device) { d.Instrs[0].Code = "1111" })},
		{"code", api.ErrSyntax, with(func(d *api.Device) { d.Instrs[1] = api.Instr{Code: "01x"} })},
		{"ones", api.ErrRule, with(func(d *api.Device) { d.Instrs[1] = api.Instr{Code: "111"} })},
		{"code twice", api.ErrTwice, with(func(d *api.Device) { d.Instrs[4] = api.Instr{Code: "010"} })},
		{"no register", api.ErrNone, with(func(d *api.Device) { d.Instrs[0].Register = "date" })},
		{"empty register", api.ErrNone, with(func(d *api.Device) { d.Instrs[0].Register = "" })},
		{"idcode without id", api.ErrNone, with(func(d *api.Device) { d.Id = 0 })},
		{"register of another device", api.ErrNone, []api.Device{twoDevices()[0], {Name: "u2", Long: 2, Instrs: []api.Instr{{Code: "00", Register: "more"}}}}},
		{"second device", api.ErrName, with(func(d *api.Device) {})},
	}
}

func TestCheckDevices(t *testing.T) {
	good := [][]api.Device{
		twoDevices(),
		manyDevices(20),
		largestDevices(),
		{{Name: "u", Long: 2, Id: 1}},
		{{Name: "u", Long: 32, Id: math.MaxUint32, Registers: manyRegisters(10)}},
		{{Name: "u", Long: 8, Instrs: manyInstrs(100)}},
		{{Name: "bypass", Long: 2}, {Name: "idcode", Long: 2}},
	}
	for i, d := range good {
		if e := CheckDevices(d); e != api.OK {
			t.Error(i, e)
		}
	}
	for _, w := range wrongDevices() {
		if e := CheckDevices(w.d); e != w.want {
			t.Error(w.what, e, w.want)
		}
	}
}

func TestSelected(t *testing.T) {
	d := twoDevices()
	for code, want := range map[string]api.Register{
		"010": {Name: "data", Long: 2},
		"000": {Name: "data", Long: 2},
		"110": {Name: "more", Long: 4},
		"001": {Name: "idcode", Long: 32},
		"100": {Name: "bypass", Long: 1},
		"111": {Name: "bypass", Long: 1},
		"011": {Name: "bypass", Long: 1},
	} {
		if r, e := Selected(d[0], code); e != api.OK || r != want {
			t.Error(code, r, e)
		}
	}
	for code, want := range map[string]api.Errno{"": api.ErrForm, "xx": api.ErrForm, "0100": api.ErrForm, "01x": api.ErrSyntax} {
		if r, e := Selected(d[0], code); e != want || r != (api.Register{}) {
			t.Error(code, r, e)
		}
	}
	d[0].Id = 2
	if r, e := Selected(d[0], "x"); e != api.ErrForm || r != (api.Register{}) {
		t.Error(r, e)
	}
	if r, e := Selected(api.Device{}, ""); e != api.ErrName || r != (api.Register{}) {
		t.Error(r, e)
	}
}

func TestFunctionsCheckDevices(t *testing.T) {
	for _, w := range wrongDevices() {
		if c, e := New(w.d); e != w.want || c != nil {
			t.Error(w.what, e)
		}
		if out, e := Run(w.d, strings.Repeat("x", api.MaxClocks+1), ""); e != w.want || out != "" {
			t.Error(w.what, out, e)
		}
		if text, e := Text(w.d); e != w.want || text != "" {
			t.Error(w.what, text, e)
		}
	}
}
