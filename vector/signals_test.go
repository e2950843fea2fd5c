package vector

import (
	"math/rand/v2"
	"slices"
	"strings"
	"testing"

	"scanchain/api"
	"scanchain/tap"
)

func wantSignals(t *testing.T, l []api.Command, wantTms, wantTdi, wantTdo string) {
	t.Helper()
	tms, tdi, tdo, e := Signals(l)
	if e != api.OK || tms != wantTms || tdi != wantTdi || tdo != wantTdo {
		t.Errorf("%v: %v\n%s\n%s\n%s\nnot\n%s\n%s\n%s", l, e, tms, tdi, tdo, wantTms, wantTdi, wantTdo)
	}
	if n, e := Clocks(l); e != api.OK || n != len(wantTms) {
		t.Errorf("%v: %d clocks %v, not %d", l, n, e, len(wantTms))
	}
}

func wantBits(t *testing.T, l []api.Command, codes, data int) {
	t.Helper()
	if i, d, e := Bits(l); e != api.OK || i != codes || d != data {
		t.Errorf("%v: %d %d %v, not %d %d", l, i, d, e, codes, data)
	}
}

func TestSignals(t *testing.T) {
	wantSignals(t, nil, "", "", "")
	wantSignals(t, program(t, "scanir 10"), "01100"+"01"+"10", "00000"+"10"+"00", "xxxxxxxxx")
	wantSignals(t, program(t, "scandr 1"), "0100"+"1"+"10", "0000"+"1"+"00", "xxxxxxx")
	wantSignals(t, program(t, "scandr 1011 0110 1101"), "0100"+"0001"+"10", "0000"+"1011"+"00", "xxxx"+"01x0"+"xx")
	wantSignals(t, program(t, "scanir 11 10 11", "scandr 0 1 0"), "01100"+"01"+"10"+"100"+"1"+"10", "00000"+"11"+"00"+"000"+"0"+"00", "xxxxx"+"10"+"xx"+"xxx"+"x"+"xx")
}

func TestHeadsAndTails(t *testing.T) {
	wantSignals(t, program(t, "headir 110", "tailir 01", "headdr 1", "taildr 0", "scanir 10 11 11"),
		"01100"+"0000001"+"10", "00000"+"110"+"10"+"01"+"00", "xxxxx"+"xxx"+"11"+"xx"+"xx")
	wantSignals(t, program(t, "headir 110", "tailir 01", "headdr 1", "taildr 0", "scandr 10 11 11"),
		"0100"+"0001"+"10", "0000"+"1"+"10"+"0"+"00", "xxxx"+"x"+"11"+"x"+"xx")
	// The last bit of all has TMS 1, not the last one of Bits; heads and tails are until the next ones.
	wantSignals(t, program(t, "taildr 11", "scandr 0", "scandr 1", "taildr -", "headdr 00", "scandr 1 1 1"),
		"0100"+"001"+"10"+"100"+"001"+"10"+"100"+"001"+"10", "0000"+"011"+"00"+"000"+"111"+"00"+"000"+"001"+"00", "xxxx"+"xxx"+"xx"+"xxx"+"xxx"+"xx"+"xxx"+"xx1"+"xx")
}

func TestEndStates(t *testing.T) {
	for end, way := range map[string]string{"idle": "10", "reset": "1111", "pausedr": "0", "pauseir": "111010"} {
		wantSignals(t, program(t, "enddr "+end, "scandr 1"), "01001"+way, "00001"+strings.Repeat("0", len(way)), "xxxxx"+strings.Repeat("x", len(way)))
		// An end state of one register is none of the other one.
		wantSignals(t, program(t, "endir "+end, "scandr 1"), "0100110", "0000100", "xxxxxxx")
	}
	for end, way := range map[string]string{"idle": "10", "reset": "1111", "pausedr": "11010", "pauseir": "0"} {
		wantSignals(t, program(t, "endir "+end, "scanir 1"), "011001"+way, "000001"+strings.Repeat("0", len(way)), "xxxxxx"+strings.Repeat("x", len(way)))
		wantSignals(t, program(t, "enddr "+end, "scanir 1"), "01100110", "00000100", "xxxxxxxx")
	}
	// From a pause, shifting goes on.
	wantSignals(t, program(t, "enddr pausedr", "scandr 1", "scandr 0", "enddr idle", "scandr 1"), "0100"+"1"+"0"+"10"+"1"+"0"+"10"+"1"+"10", "0000"+"1"+"0"+"00"+"0"+"0"+"00"+"1"+"00", strings.Repeat("x", 15))
}

func TestIdleAndGo(t *testing.T) {
	wantSignals(t, program(t, "idle 0"), "0", "0", "x")
	wantSignals(t, program(t, "idle 3", "idle 0", "idle 1"), "00000", "00000", "xxxxx")
	wantSignals(t, program(t, "go pauseir", "idle 2"), "011010"+"110"+"00", "00000000000", "xxxxxxxxxxx")
	for _, from := range []string{"reset", "idle", "pausedr", "pauseir"} {
		for _, to := range []string{"reset", "idle", "pausedr", "pauseir"} {
			start, _ := stateOf(from)
			end, _ := stateOf(to)
			first, _ := tap.Path(api.StateReset, start)
			then, _ := tap.Path(start, end)
			all := first + then
			wantSignals(t, program(t, "go "+from, "go "+to), all, strings.Repeat("0", len(all)), strings.Repeat("x", len(all)))
			wantList(t, from+" "+to, start, end)(States(program(t, "go "+from, "go "+to)))
		}
	}
}

func TestStates(t *testing.T) {
	wantList[int](t, "none")(States(nil))
	l := program(t, "endir pauseir", "enddr pausedr", "scandr 1", "headir 1", "scanir 0", "idle 0", "go reset", "tailir 1", "scanir 1", "endir reset", "scanir 0", "go pausedr", "idle 5")
	wantList(t, "all", api.StateReset, api.StateReset, api.StatePauseDR, api.StatePauseDR, api.StatePauseIR, api.StateIdle, api.StateReset, api.StateReset,
		api.StatePauseIR, api.StatePauseIR, api.StateReset, api.StatePauseDR, api.StateIdle)(States(l))
}

func TestBits(t *testing.T) {
	wantBits(t, nil, 0, 0)
	wantBits(t, program(t, "go pausedr", "go pauseir", "idle 9"), 0, 0)
	wantBits(t, program(t, "scanir 10", "scandr 111", "scanir 0"), 3, 3)
	wantBits(t, program(t, "headir 1", "tailir 11", "headdr 0000", "taildr 00000", "scanir 10", "scandr 111", "headdr -", "scandr 0"), 5, 12+6)
}

func TestSignalsArePlain(t *testing.T) {
	randomCases(1_000, 14, func(_ *rand.Rand, _ []api.Device, l []api.Command) {
		p := played(l)
		wantSignals(t, l, p.tms, p.tdi, p.tdo)
		wantList(t, "states", p.states...)(States(l))
		wantBits(t, l, p.shiftedIn[api.StateShiftIR], p.shiftedIn[api.StateShiftDR])
	})
}

func TestSignalsSize(t *testing.T) {
	l := slices.Repeat(program(t, "scandr 10101010101010"), 1_000)
	// Each scan has 19 clocks, the first one 20.
	wantBits(t, l, 0, 14_000)
	if n, e := Clocks(l); e != api.OK || n != 19_001 {
		t.Error(n, e)
	}
	l[0] = api.Command{Kind: api.CommandIdle, Clocks: 20_000 - 19*999 - 1}
	tms, tdi, tdo, e := Signals(l)
	if e != api.OK || len(tms) != api.MaxClocks || len(tdi) != api.MaxClocks || len(tdo) != api.MaxClocks {
		t.Error(len(tms), len(tdi), len(tdo), e)
	}
}
