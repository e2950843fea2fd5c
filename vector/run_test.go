package vector

import (
	"math/rand/v2"
	"slices"
	"strings"
	"testing"

	"scanchain/api"
)

// twoDevices are a device with a register and an idcode, and one nearer to TDO without.
func twoDevices() []api.Device {
	return []api.Device{
		{Name: "u", Long: 3, Id: 5, Registers: []api.Register{{Name: "data", Long: 2}}, Instrs: []api.Instr{{Code: "010", Register: "data"}}},
		{Name: "v", Long: 2, Registers: []api.Register{{Name: "more", Long: 3}}, Instrs: []api.Instr{{Code: "00", Register: "more"}}},
	}
}

func wantFailed(t *testing.T, d []api.Device, l []api.Command, wantScans, wantCounts []int) {
	t.Helper()
	scans, counts, e := Failed(d, l)
	if e != api.OK || !slices.Equal(scans, wantScans) || !slices.Equal(counts, wantCounts) {
		t.Errorf("%v: %v %v %v, not %v %v", l, scans, counts, e, wantScans, wantCounts)
	}
}

func TestRun(t *testing.T) {
	wantList[string](t, "no commands")(Run(twoDevices(), nil))
	// After a reset there are the bypass of v, then the idcode of u.
	wantList(t, "idcode", "0101000")(Run(twoDevices(), program(t, "scandr 1111111")))
	wantList(t, "captured instructions, then bypasses", "10100", "00110")(Run(twoDevices(), program(t, "scanir 11111", "scandr 11010")))
	wantList(t, "all kinds", "", "", "10", "", "", "", "", "001", "", "", "1")(Run(twoDevices(), program(t,
		"headir 11", "tailir 1", "scanir 10", "headdr 0", "taildr 1", "enddr pausedr", "idle 2", "scandr 110", "go reset", "enddr idle", "scandr 1")))
	// After a pause come the bits that were shifted in before it: nothing is captured.
	wantList(t, "pause", "", "10100", "00", "0", "", "11")(Run(twoDevices(), program(t, "enddr pausedr", "scanir 11111", "scandr 01", "scandr 1", "go pausedr", "scandr 00")))
}

func TestRunIsPlain(t *testing.T) {
	randomCases(500, 12, func(_ *rand.Rand, d []api.Device, l []api.Command) {
		wantList(t, "random", outputs(t, d, l)...)(Run(d, l))
	})
}

func TestFailed(t *testing.T) {
	wantFailed(t, twoDevices(), nil, nil, nil)
	wantFailed(t, twoDevices(), program(t, "scandr 1111111 0101000 1111111"), nil, nil)
	wantFailed(t, twoDevices(), program(t, "scandr 1111111 1101000 1111111"), []int{0}, []int{1})
	wantFailed(t, twoDevices(), program(t, "scandr 1111111 1101000 0111111"), nil, nil)
	wantFailed(t, twoDevices(), program(t, "scandr 1111111 1010111 1111111"), []int{0}, []int{7})
	wantFailed(t, twoDevices(), program(t, "scandr 1111111 1010111 0000000"), nil, nil)
	wantFailed(t, twoDevices(), program(t, "scandr 1111111"), nil, nil)
	// The numbers of scans are those of commands; heads and tails are not compared.
	wantFailed(t, twoDevices(), program(t, "headir 0", "tailir 1", "scanir 111 010 101", "idle 1", "scanir 111 010 111", "scanir 111 101 111", "scanir 000 110 110"), []int{5, 6}, []int{3, 1})
}

func TestFailedIsPlain(t *testing.T) {
	failures := 0
	randomCases(500, 12, func(_ *rand.Rand, d []api.Device, l []api.Command) {
		var scans, counts []int
		for i, out := range outputs(t, d, l) {
			wrong := 0
			for bit := range l[i].Mask {
				if l[i].Mask[bit] == '1' && l[i].Want[bit] != out[bit] {
					wrong++
				}
			}
			if wrong > 0 {
				scans, counts = append(scans, i), append(counts, wrong)
			}
		}
		failures += len(scans)
		wantFailed(t, d, l, scans, counts)
	})
	if failures < 100 {
		t.Error("few failures", failures)
	}
}

func TestLearned(t *testing.T) {
	wantList[api.Command](t, "no commands")(Learned(twoDevices(), nil))
	l := program(t, "headir 0", "scanir 1111", "endir reset", "scanir 1111 0000 0110", "go pausedr", "scandr 1 1 0", "idle 3")
	want := program(t, "headir 0", "scanir 1111 0100 1111", "endir reset", "scanir 1111 0100 1111", "go pausedr", "scandr 1 0 1", "idle 3")
	wantList(t, "all kinds", want...)(Learned(twoDevices(), l))
}

func TestLearnedProgramsDoNotFail(t *testing.T) {
	randomCases(500, 12, func(_ *rand.Rand, d []api.Device, l []api.Command) {
		want := slices.Clone(l)
		for i, out := range outputs(t, d, l) {
			want[i].Want, want[i].Mask = out, strings.Repeat("1", len(out))
		}
		learned, e := Learned(d, l)
		wantList(t, "learned", want...)(learned, e)
		wantFailed(t, d, learned, nil, nil)
	})
}

func TestRunSize(t *testing.T) {
	d := make([]api.Device, api.MaxDevices)
	for i := range d {
		d[i] = api.Device{Name: "u" + string(rune('a'+i)), Long: api.MaxInstr}
	}
	// 20 devices are in bypass.
	l := slices.Repeat(program(t, "scandr 11111111111111"), 1_000)
	want := slices.Repeat([]string{strings.Repeat("0", 14)}, 1_000)
	wantList(t, "most commands", want...)(Run(d, l))
	long := program(t, "scandr "+strings.Repeat("1", api.MaxScan))
	wantList(t, "longest scan", strings.Repeat("0", 20)+strings.Repeat("1", api.MaxScan-20))(Run(d, long))
	wantFailed(t, d, []api.Command{{Kind: api.CommandScanDR, Bits: long[0].Bits, Want: long[0].Bits, Mask: long[0].Bits}}, []int{0}, []int{20})
}
