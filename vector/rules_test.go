package vector

import (
	"slices"
	"strings"
	"sync"
	"testing"

	"scanchain/api"
	"scanchain/tap"
)

// spareDevices are twoDevices with elements that are not valid in the memory behind each list.
func spareDevices() []api.Device {
	d := append(twoDevices(), api.Device{Name: "?"})[:2]
	for i := range d {
		d[i].Registers = append(slices.Clone(d[i].Registers), api.Register{Name: "?"})[:1]
		d[i].Instrs = append(slices.Clone(d[i].Instrs), api.Instr{Code: "?"})[:1]
	}
	return d
}

// spareProgram has a command that is not valid in the memory behind it.
func spareProgram(t *testing.T) []api.Command {
	l := program(t, "headir 0", "scanir 1100 0100 1111", "enddr pausedr", "tailir 1", "scandr 101 010 110", "go pausedr", "idle 2")
	return append(l, api.Command{Kind: 99})[:len(l)]
}

func useAll(t *testing.T, d []api.Device, l []api.Command) {
	t.Helper()
	p := played(l)
	wantSignals(t, l, p.tms, p.tdi, p.tdo)
	wantList(t, "states", p.states...)(States(l))
	wantBits(t, l, 5, 3)
	wantList(t, "run", "", "0100", "", "", "001", "", "")(Run(d, l))
	wantFailed(t, d, l, []int{4}, []int{1})
	wantList(t, "learned", program(t, "headir 0", "scanir 1100 0100 1111", "enddr pausedr", "tailir 1", "scandr 101 001 111", "go pausedr", "idle 2")...)(Learned(d, l))
	wantList(t, "padded", program(t, "headir 11", "tailir -", "headdr 0", "taildr -", "headir 110", "scanir 1100 0100 1111", "enddr pausedr", "tailir 1", "scandr 101 010 110", "go pausedr", "idle 2")...)(Padded(d, "u", l))
	wantList(t, "without", program(t, "headir 0", "scanir 1100 0100 1111", "enddr pausedr", "scandr 101 010 110", "idle 2")...)(Without(l))
	wantSame(t, l)
	if is, e := Same(l, l); e != api.OK || !is {
		t.Error(is, e)
	}
}

func TestArgumentsStay(t *testing.T) {
	d, l := spareDevices(), spareProgram(t)
	useAll(t, d, l)
	text, e := tap.Text(d)
	want, _ := tap.Text(twoDevices())
	if e != api.OK || text != want || d[:3][2].Name != "?" || d[0].Registers[:2][1].Name != "?" || d[1].Instrs[:2][1].Code != "?" {
		t.Error("changed", d, e)
	}
	if !slices.Equal(l[:len(l)+1], append(spareProgram(t), api.Command{Kind: 99})) {
		t.Error("changed", l)
	}
}

func TestResultsAreNew(t *testing.T) {
	d, l := spareDevices(), spareProgram(t)
	learned, _ := Learned(d, l)
	padded, _ := Padded(d, "v", l)
	kept, _ := Without(l)
	same, _ := Without(kept)
	for _, result := range [][]api.Command{learned, padded, kept, same} {
		clear(append(result, api.Command{Kind: 1}))
	}
	states, _ := States(l)
	clear(states)
	useAll(t, d, l)
	if l[:len(l)+1][len(l)].Kind != 99 {
		t.Error("changed", l)
	}
}

func TestFunctionsRunAtOnce(t *testing.T) {
	d, l := spareDevices(), spareProgram(t)
	var all sync.WaitGroup
	for range 8 {
		all.Go(func() {
			for range 20 {
				useAll(t, d, l)
			}
		})
	}
	all.Wait()
}

func TestLargeArgumentsReturn(t *testing.T) {
	const most = 200_000
	long := strings.Repeat("1", most)
	for name, call := range withCommands {
		for _, c := range []struct {
			want api.Errno
			l    []api.Command
		}{
			{api.ErrLarge, make([]api.Command, most)},
			{api.ErrLarge, slices.Repeat([]api.Command{scanned(api.CommandTailIR, long)}, 1_000)},
			{api.ErrLarge, []api.Command{scanned(api.CommandScanIR, long)}},
			{api.ErrForm, []api.Command{{Kind: api.CommandScanIR, Bits: "1", Want: long, Mask: long}}},
			{api.ErrForm, []api.Command{{Kind: api.CommandScanIR, Bits: "1", Mask: long}}},
			{api.ErrForm, []api.Command{{Kind: api.CommandGo, Bits: long}}},
		} {
			if isZero, e := call(c.l); e != c.want || !isZero {
				t.Errorf("%s: %t %v, not %v", name, isZero, e, c.want)
			}
		}
	}
	for name, call := range withDevices {
		if isZero, e := call(make([]api.Device, most), nil); e != api.ErrLarge || !isZero {
			t.Errorf("%s: %t %v", name, isZero, e)
		}
	}
	if l, e := Padded(twoDevices(), long, nil); e != api.ErrNone || len(l) != 0 {
		t.Error(len(l), e)
	}
	for _, line := range []string{"\n", " ", "go idle\n", "scanir x\n", "headir -\n", "x y\n", "scanir 1 0 1\n"} {
		if l, _, e := Read(strings.Repeat(line, api.MaxText/len(line))); e == api.OK || len(l) != 0 {
			t.Error(line, e)
		}
	}
}
