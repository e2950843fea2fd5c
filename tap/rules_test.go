package tap

import (
	"slices"
	"strings"
	"sync"
	"testing"

	"scanchain/api"
)

// spareDevices are twoDevices with elements in the memory behind each list.
func spareDevices() []api.Device {
	d := append(twoDevices(), api.Device{Name: "u1"})[:2]
	for i := range d {
		registers := append(slices.Clone(d[i].Registers), api.Register{Name: "bypass"})
		d[i].Registers = registers[:len(registers)-1]
		instrs := append(slices.Clone(d[i].Instrs), api.Instr{Code: "x"})
		d[i].Instrs = instrs[:len(instrs)-1]
	}
	return d
}

func TestArgumentsStay(t *testing.T) {
	d := spareDevices()
	if e := CheckDevices(d); e != api.OK {
		t.Error(e)
	}
	if text, e := Text(d); e != api.OK || text != twoDevicesText {
		t.Error(text, e)
	}
	c := newChain(t, d)
	wantShiftIR(t, c, "10010", "10100")
	Run(d, "0100", "0000")
	Selected(d[0], "010")
	if !sameDevices(d, twoDevices()) || d[:3][2].Name != "u1" || d[0].Registers[:3][2].Name != "bypass" || d[1].Instrs[:2][1].Code != "x" {
		t.Error("changed", d)
	}
}

func TestArgumentsAreNotKept(t *testing.T) {
	d := twoDevices()
	c := newChain(t, d)
	for i := range d {
		d[i].Name, d[i].Id, d[i].Long = "x", 0, 9
		clear(d[i].Registers)
		clear(d[i].Instrs)
	}
	wantShiftDR(t, c, "00", "01")
	wantShiftIR(t, c, "10010", "10100")
	wantShiftDR(t, c, "11001", "00000")
	wantOutput(t, c, "u1", "data", "01")
	wantOutput(t, c, "u2", "data", "110")
}

func TestResultsAreNew(t *testing.T) {
	states, _ := Walk(api.StateReset, "0101")
	clear(states)
	if again, _ := Walk(api.StateReset, "0101"); !slices.Equal(again, []int{1, 2, 3, 5}) {
		t.Error(again)
	}
	d, _, _ := Read(twoDevicesText)
	one := append(d[0].Registers, api.Register{Name: "one", Long: 1})
	two := append(d[1].Registers, api.Register{Name: "two", Long: 1})
	if one[2].Name != "one" || two[1].Name != "two" {
		t.Error("shared memory")
	}
	clear(d[0].Instrs)
	if again, _, e := Read(twoDevicesText); e != api.OK || !sameDevices(again, twoDevices()) {
		t.Error(again, e)
	}
}

func TestChainsAreApart(t *testing.T) {
	d := twoDevices()
	a, b := newChain(t, d), newChain(t, d)
	a.SetInput("u1", "data", "11")
	wantShiftIR(t, a, "10010", "10100")
	wantShiftDR(t, a, "11111", "00011")
	if b.State() != api.StateReset {
		t.Error(b.State())
	}
	wantInstruction(t, b, "u1", "")
	wantOutput(t, b, "u1", "data", "00")
	wantShiftIR(t, b, "10010", "10100")
	wantShiftDR(t, b, "00000", "00000")
}

func TestFunctionsRunAtOnce(t *testing.T) {
	d := twoDevices()
	tms, tdi := strings.Repeat("0100000111", 100), strings.Repeat("0110010101", 100)
	want, _ := Run(d, tms, tdi)
	var all sync.WaitGroup
	for range 8 {
		all.Go(func() {
			for range 20 {
				if out, e := Run(d, tms, tdi); e != api.OK || out != want {
					t.Error(out, e)
				}
				if path, e := Path(api.StateReset, api.StateUpdateIR); e != api.OK || path != firstPath(api.StateReset, api.StateUpdateIR) {
					t.Error(path, e)
				}
				if text, e := Text(d); e != api.OK || text != twoDevicesText {
					t.Error(text, e)
				}
				if again, _, e := Read(twoDevicesText); e != api.OK || !sameDevices(again, d) {
					t.Error(again, e)
				}
			}
		})
	}
	all.Wait()
}

func TestLargeArgumentsReturn(t *testing.T) {
	const most = 200_000
	long := strings.Repeat("1", most)
	device := api.Device{Name: "u", Long: 2, Registers: make([]api.Register, most)}
	instrs := api.Device{Name: "u", Long: 2, Instrs: make([]api.Instr, most)}
	for _, d := range [][]api.Device{make([]api.Device, most), {device}, {instrs}} {
		if e := CheckDevices(d); e != api.ErrLarge {
			t.Error(e)
		}
	}
	if e := CheckDevices([]api.Device{{Name: strings.Repeat("a", most), Long: 2}}); e != api.ErrName {
		t.Error(e)
	}
	if _, e := Selected(twoDevices()[0], long); e != api.ErrForm {
		t.Error(e)
	}
	if _, e := Run(twoDevices(), long, long); e != api.ErrLarge {
		t.Error(e)
	}
	for _, line := range []string{"\n", " ", "device u 2 0\n", "x y\n"} {
		if d, _, e := Read(strings.Repeat(line, api.MaxText/len(line))); e == api.OK || len(d) != 0 {
			t.Error(e)
		}
	}
	d := largestDevices()
	tms := "01100" + strings.Repeat("0", 640) + "1" + "1100" + strings.Repeat("0", api.MaxClocks-650)
	if out, e := Run(d, tms, strings.Repeat("0", len(tms))); e != api.OK || len(out) != api.MaxClocks {
		t.Error(len(out), e)
	}
}
