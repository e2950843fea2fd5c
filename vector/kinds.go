package vector

import "scanchain/api"

// What commands have besides their kind.
const (
	hasState = iota + 1
	hasClocks
	hasBits // none, or some
	hasScan // some bits, and what is wanted of them
)

// shape is how the commands of a kind are written, and what they have.
type shape struct {
	word string
	has  int
}

var kinds = [...]shape{
	api.CommandEndIR:  {"endir", hasState},
	api.CommandEndDR:  {"enddr", hasState},
	api.CommandHeadIR: {"headir", hasBits},
	api.CommandTailIR: {"tailir", hasBits},
	api.CommandHeadDR: {"headdr", hasBits},
	api.CommandTailDR: {"taildr", hasBits},
	api.CommandScanIR: {"scanir", hasScan},
	api.CommandScanDR: {"scandr", hasScan},
	api.CommandIdle:   {"idle", hasClocks},
	api.CommandGo:     {"go", hasState},
}

// stateWords has a word for each state that is stable, and no other.
var stateWords = [...]string{
	api.StateReset:   "reset",
	api.StateIdle:    "idle",
	api.StatePauseDR: "pausedr",
	api.StatePauseIR: "pauseir",
}

func isKind(kind int) bool {
	return api.CommandEndIR <= kind && kind <= api.CommandGo
}

func isStable(state int) bool {
	return 0 <= state && state < len(stateWords) && stateWords[state] != ""
}

func isSetting(kind int) bool {
	return api.CommandEndIR <= kind && kind <= api.CommandTailDR
}

// scanOf returns the kind of the scans for which a kind of settings is.
func scanOf(setting int) int {
	switch setting {
	case api.CommandEndIR, api.CommandHeadIR, api.CommandTailIR:
		return api.CommandScanIR
	}
	return api.CommandScanDR
}
