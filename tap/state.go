// Package tap is the test access ports of a chain of devices.
package tap

import (
	"strconv"

	"scanchain/api"
	"scanchain/words"
)

// nextStates has for each state the next one with TMS 0 and the one with TMS 1.
var nextStates = [16][2]int{
	api.StateReset:     {api.StateIdle, api.StateReset},
	api.StateIdle:      {api.StateIdle, api.StateSelectDR},
	api.StateSelectDR:  {api.StateCaptureDR, api.StateSelectIR},
	api.StateCaptureDR: {api.StateShiftDR, api.StateExit1DR},
	api.StateShiftDR:   {api.StateShiftDR, api.StateExit1DR},
	api.StateExit1DR:   {api.StatePauseDR, api.StateUpdateDR},
	api.StatePauseDR:   {api.StatePauseDR, api.StateExit2DR},
	api.StateExit2DR:   {api.StateShiftDR, api.StateUpdateDR},
	api.StateUpdateDR:  {api.StateIdle, api.StateSelectDR},
	api.StateSelectIR:  {api.StateCaptureIR, api.StateReset},
	api.StateCaptureIR: {api.StateShiftIR, api.StateExit1IR},
	api.StateShiftIR:   {api.StateShiftIR, api.StateExit1IR},
	api.StateExit1IR:   {api.StatePauseIR, api.StateUpdateIR},
	api.StatePauseIR:   {api.StatePauseIR, api.StateExit2IR},
	api.StateExit2IR:   {api.StateShiftIR, api.StateUpdateIR},
	api.StateUpdateIR:  {api.StateIdle, api.StateSelectDR},
}

// Next returns the next state.
func Next(state, tms int) (int, api.Errno) {
	if !isState(state) || !isBit(tms) {
		return 0, api.ErrArg
	}
	return nextStates[state][tms], api.OK
}

// Walk returns the states after each bit.
func Walk(state int, tms string) ([]int, api.Errno) {
	if !isState(state) {
		return nil, api.ErrArg
	}
	if e := checkClocks(tms); e != api.OK {
		return nil, e
	}
	states := make([]int, len(tms))
	for i := range states {
		state = after(state, tms[i])
		states[i] = state
	}
	return states, api.OK
}

// Path returns the shortest sequence from one state to another one.
func Path(from, to int) (string, api.Errno) {
	if !isState(from) || !isState(to) {
		return "", api.ErrArg
	}
	return shortestPath(from, to), api.OK
}

func shortestPath(from, to int) string {
	// States are reached in the order of their paths, the shorter ones first, and 0 is tried before 1: so the first path to a state is the one that is asked for.
	paths := map[int]string{from: ""}
	reached := []int{from}
	for i := 0; i < len(reached); i++ {
		state := reached[i]
		for tms, next := range nextStates[state] {
			if _, known := paths[next]; !known {
				paths[next] = paths[state] + strconv.Itoa(tms)
				reached = append(reached, next)
			}
		}
	}
	return paths[to]
}

// Synchronizes returns the state to which a sequence leads from each state.
func Synchronizes(tms string) (int, bool, api.Errno) {
	if e := checkClocks(tms); e != api.OK {
		return 0, false, e
	}
	end := lastState(0, tms)
	for state := range nextStates {
		if lastState(state, tms) != end {
			return 0, false, api.OK
		}
	}
	return end, true, api.OK
}

func lastState(state int, tms string) int {
	for i := range len(tms) {
		state = after(state, tms[i])
	}
	return state
}

// after returns the next state for TMS as a byte of a bit string.
func after(state int, tms byte) int {
	return nextStates[state][tms-'0']
}

func isState(state int) bool {
	return 0 <= state && state < len(nextStates)
}

func isBit(n int) bool {
	return n == 0 || n == 1
}

// checkClocks says what is wrong with one bit for each clock.
func checkClocks(bits string) api.Errno {
	if len(bits) > api.MaxClocks {
		return api.ErrLarge
	}
	if !words.IsBits(bits) {
		return api.ErrSyntax
	}
	return api.OK
}
