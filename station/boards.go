package station

import (
	"cmp"
	"maps"
	"slices"
	"strconv"

	"scanchain/api"
	"scanchain/words"
)

// stateWords has the word for each state of a board.
var stateWords = [...]string{
	api.BoardWaits:    "waits",
	api.BoardRuns:     "runs",
	api.BoardFailed:   "failed",
	api.BoardDone:     "done",
	api.BoardScrapped: "scrapped",
}

// Refused returns the entries that are refused, and why.
func Refused(f api.Flow, l []api.Entry, at int) ([]int, []api.Errno, api.Errno) {
	h, e := known(f, l, at)
	if e != api.OK {
		return nil, nil, e
	}
	return h.refused, h.reasons, api.OK
}

// Of returns the status of a board.
func Of(f api.Flow, l []api.Entry, board string, at int) (api.Status, api.Errno) {
	return find(f, l, at, func(h *history) (api.Status, api.Errno) { return h.of(board) })
}

func (h *history) of(name string) (api.Status, api.Errno) {
	if !words.IsKey(name) {
		return api.Status{}, api.ErrName
	}
	number, has := h.numbers[name]
	if !has {
		return api.Status{}, api.ErrNone
	}
	return h.boards[number].Status, api.OK
}

// longest returns the boards that is accepts, those first whose state has lasted longest, then by name.
func (h *history) longest(is func(b board) bool) []board {
	var found []board
	for _, b := range h.boards {
		if is(b) {
			found = append(found, b)
		}
	}
	slices.SortFunc(found, func(x, y board) int {
		return cmp.Or(cmp.Compare(x.Since, y.Since), cmp.Compare(x.name, y.name))
	})
	return found
}

// Waiting returns the boards that wait for a step.
func Waiting(f api.Flow, l []api.Entry, step string, at int) ([]string, api.Errno) {
	return find(f, l, at, func(h *history) ([]string, api.Errno) { return h.waiting(step) })
}

func (h *history) waiting(step string) ([]string, api.Errno) {
	if !slices.Contains(h.flow.Steps, step) {
		return nil, api.ErrNone
	}
	var names []string
	for _, b := range h.longest(func(b board) bool { return b.State == api.BoardWaits && b.Step == step }) {
		names = append(names, b.name)
	}
	return names, api.OK
}

// Running returns the boards that run, by site.
func Running(f api.Flow, l []api.Entry, at int) ([]api.Pair, api.Errno) {
	return find(f, l, at, (*history).bySite)
}

func (h *history) bySite() ([]api.Pair, api.Errno) {
	var pairs []api.Pair
	for _, site := range slices.Sorted(maps.Keys(h.running)) {
		pairs = append(pairs, api.Pair{Name: site, Value: h.boards[h.running[site]].name})
	}
	return pairs, api.OK
}

// Counts returns how many boards are in each state.
func Counts(f api.Flow, l []api.Entry, at int) ([]api.Pair, api.Errno) {
	return find(f, l, at, (*history).counts)
}

func (h *history) counts() ([]api.Pair, api.Errno) {
	counts := map[int]int{}
	for _, b := range h.boards {
		counts[b.State]++
	}
	var pairs []api.Pair
	for state := api.BoardWaits; state <= api.BoardScrapped; state++ {
		pairs = append(pairs, api.Pair{Name: stateWords[state], Value: strconv.Itoa(counts[state])})
	}
	return pairs, api.OK
}

// Oldest returns the board whose state has lasted longest.
func Oldest(f api.Flow, l []api.Entry, at int) (string, int, bool, api.Errno) {
	h, e := known(f, l, at)
	if e != api.OK {
		return "", 0, false, e
	}
	left := h.longest(func(b board) bool { return !isOver(b.Status) })
	if len(left) == 0 {
		return "", 0, false, api.OK
	}
	return left[0].name, left[0].Since, true, api.OK
}

// Next returns what could be done next.
func Next(f api.Flow, l []api.Entry, at int) ([]api.Pair, api.Errno) {
	return find(f, l, at, (*history).next)
}

func (h *history) next() ([]api.Pair, api.Errno) {
	var pairs []api.Pair
	for _, step := range h.flow.Steps {
		names, e := h.waiting(step)
		if e != api.OK {
			return nil, e
		}
		if len(names) > 0 {
			pairs = append(pairs, api.Pair{Name: step, Value: names[0]})
		}
	}
	return pairs, api.OK
}
