package tap

import (
	"math"
	"slices"
	"strconv"
	"strings"
	"testing"

	"scanchain/api"
)

// stateRows is the table of P1.1: state, next state with TMS 0, next state with TMS 1.
func stateRows() [][3]int {
	return [][3]int{
		{api.StateReset, api.StateIdle, api.StateReset},
		{api.StateIdle, api.StateIdle, api.StateSelectDR},
		{api.StateSelectDR, api.StateCaptureDR, api.StateSelectIR},
		{api.StateCaptureDR, api.StateShiftDR, api.StateExit1DR},
		{api.StateShiftDR, api.StateShiftDR, api.StateExit1DR},
		{api.StateExit1DR, api.StatePauseDR, api.StateUpdateDR},
		{api.StatePauseDR, api.StatePauseDR, api.StateExit2DR},
		{api.StateExit2DR, api.StateShiftDR, api.StateUpdateDR},
		{api.StateUpdateDR, api.StateIdle, api.StateSelectDR},
		{api.StateSelectIR, api.StateCaptureIR, api.StateReset},
		{api.StateCaptureIR, api.StateShiftIR, api.StateExit1IR},
		{api.StateShiftIR, api.StateShiftIR, api.StateExit1IR},
		{api.StateExit1IR, api.StatePauseIR, api.StateUpdateIR},
		{api.StatePauseIR, api.StatePauseIR, api.StateExit2IR},
		{api.StateExit2IR, api.StateShiftIR, api.StateUpdateIR},
		{api.StateUpdateIR, api.StateIdle, api.StateSelectDR},
	}
}

func noStates() []int {
	return []int{-1, 16, math.MinInt, math.MaxInt}
}

func TestNext(t *testing.T) {
	for _, row := range stateRows() {
		for tms := range 2 {
			if next, e := Next(row[0], tms); e != api.OK || next != row[1+tms] {
				t.Error(row[0], tms, next, e)
			}
		}
		for _, tms := range []int{-1, 2, math.MinInt, math.MaxInt} {
			if next, e := Next(row[0], tms); e != api.ErrArg || next != 0 {
				t.Error(row[0], tms, next, e)
			}
		}
	}
	for _, state := range noStates() {
		if next, e := Next(state, 1); e != api.ErrArg || next != 0 {
			t.Error(state, next, e)
		}
	}
}

func TestWalk(t *testing.T) {
	tms := "0110011010010111011111010001011000110100111011100101011010011011"
	for _, row := range stateRows() {
		var want []int
		state := row[0]
		for _, bit := range tms {
			state = stateRows()[state][1+int(bit-'0')]
			want = append(want, state)
		}
		if got, e := Walk(row[0], tms); e != api.OK || !slices.Equal(got, want) {
			t.Error(row[0], got, e)
		}
	}
	if got, e := Walk(api.StateIdle, ""); e != api.OK || len(got) != 0 {
		t.Error(got, e)
	}
	got, e := Walk(api.StatePauseDR, strings.Repeat("0", api.MaxClocks))
	if e != api.OK || len(got) != api.MaxClocks || got[api.MaxClocks-1] != api.StatePauseDR {
		t.Error(len(got), e)
	}
}

func TestWalkErrors(t *testing.T) {
	for _, state := range noStates() {
		if got, e := Walk(state, strings.Repeat("x", api.MaxClocks+1)); e != api.ErrArg || len(got) != 0 {
			t.Error(state, got, e)
		}
	}
	if got, e := Walk(0, strings.Repeat("x", api.MaxClocks+1)); e != api.ErrLarge || len(got) != 0 {
		t.Error(got, e)
	}
	if got, e := Walk(0, "012"); e != api.ErrSyntax || len(got) != 0 {
		t.Error(got, e)
	}
}

// firstPath tries all sequences, the shorter ones first, and of one length in lexicographical order.
func firstPath(from, to int) string {
	for long := 0; ; long++ {
		for n := range 1 << long {
			tms := strconv.FormatInt(int64(1<<long+n), 2)[1:]
			state := from
			for _, bit := range tms {
				state = stateRows()[state][1+int(bit-'0')]
			}
			if state == to {
				return tms
			}
		}
	}
}

func TestPath(t *testing.T) {
	for from := range 16 {
		for to := range 16 {
			if path, e := Path(from, to); e != api.OK || path != firstPath(from, to) {
				t.Error(from, to, path, e)
			}
		}
	}
	if path, _ := Path(api.StateShiftDR, api.StateIdle); path != "110" {
		t.Error(path)
	}
	if path, _ := Path(api.StateIdle, api.StateShiftIR); path != "1100" {
		t.Error(path)
	}
	for _, state := range noStates() {
		if path, e := Path(state, api.StateIdle); e != api.ErrArg || path != "" {
			t.Error(state, path, e)
		}
		if path, e := Path(api.StateIdle, state); e != api.ErrArg || path != "" {
			t.Error(state, path, e)
		}
	}
}

func TestSynchronizes(t *testing.T) {
	for long := range 8 {
		for n := range 1 << long {
			tms := strconv.FormatInt(int64(1<<long+n), 2)[1:]
			ends := map[int]bool{}
			end := 0
			for from := range 16 {
				end = from
				for _, bit := range tms {
					end = stateRows()[end][1+int(bit-'0')]
				}
				ends[end] = true
			}
			if len(ends) > 1 {
				end = 0
			}
			if state, is, e := Synchronizes(tms); e != api.OK || is != (len(ends) == 1) || state != end {
				t.Error(tms, state, is, e)
			}
		}
	}
	for tms, want := range map[string]int{"11111": api.StateReset, "111110": api.StateIdle, "1111101100": api.StateShiftIR, strings.Repeat("1", api.MaxClocks): api.StateReset} {
		if state, is, e := Synchronizes(tms); e != api.OK || !is || state != want {
			t.Error(len(tms), state, is, e)
		}
	}
	if state, is, e := Synchronizes(strings.Repeat("2", api.MaxClocks+1)); e != api.ErrLarge || is || state != 0 {
		t.Error(state, is, e)
	}
	if state, is, e := Synchronizes("111110a"); e != api.ErrSyntax || is || state != 0 {
		t.Error(state, is, e)
	}
}
