package station

import (
	"cmp"
	"slices"

	"scanchain/api"
)

// board is a board that has entered, as it is.
type board struct {
	name string
	api.Status
}

// run is a run of a step that has ended, with the kind of the entry that ended it.
type run struct {
	board, step, site string
	from, to, end     int
}

// history is what entries have led to.
type history struct {
	flow    api.Flow
	boards  []board
	numbers map[string]int // of the boards, by name
	running map[string]int // the number of the board that each site runs
	runs    []run          // those that have ended, in the order of their ends
	refused []int
	reasons []api.Errno
}

// known returns what entries have led to at a moment, after the checks.
func known(f api.Flow, l []api.Entry, at int) (*history, api.Errno) {
	if e := cmp.Or(checkBoth(f, l), checkMoment(at)); e != api.OK {
		return nil, e
	}
	return follow(f, l, at), api.OK
}

// find returns what a function finds in what entries have led to at a moment, after the checks.
func find[T any](f api.Flow, l []api.Entry, at int, in func(h *history) (T, api.Errno)) (T, api.Errno) {
	h, e := known(f, l, at)
	if e != api.OK {
		var none T
		return none, e
	}
	return in(h)
}

// follow follows the entries that count at a moment.
func follow(f api.Flow, l []api.Entry, at int) *history {
	h := &history{flow: f, numbers: map[string]int{}, running: map[string]int{}}
	for _, index := range counting(l, at) {
		if reason := h.take(l[index]); reason != api.OK {
			h.refused = append(h.refused, index)
			h.reasons = append(h.reasons, reason)
		}
	}
	return h
}

// take follows an entry, or says why it is refused.
func (h *history) take(x api.Entry) api.Errno {
	if x.Kind == api.EntryUndo {
		return api.OK
	}
	number, has := h.numbers[x.Board]
	switch {
	case x.Kind == api.EntryEnter && has:
		return api.ErrTwice
	case x.Kind == api.EntryEnter:
		h.numbers[x.Board] = len(h.boards)
		h.boards = append(h.boards, board{x.Board, h.waitsFor(0, x.At)})
		return api.OK
	case !has:
		return api.ErrNone
	}
	if reason := h.reason(x, h.boards[number].Status); reason != api.OK {
		return reason
	}
	h.move(x, number)
	return api.OK
}

// reason says why an entry is refused, with the status of its board.
func (h *history) reason(x api.Entry, now api.Status) api.Errno {
	_, isTaken := h.running[x.Site]
	switch x.Kind {
	case api.EntryStart:
		switch {
		case now.State != api.BoardWaits:
			return api.ErrState
		case now.Step != x.Step:
			return api.ErrForm
		case isTaken:
			return api.ErrFull
		}
	case api.EntryPass, api.EntryFail:
		switch {
		case now.State != api.BoardRuns:
			return api.ErrState
		case now.Site != x.Site:
			return api.ErrConflict
		}
	case api.EntryRepair:
		if now.State != api.BoardFailed {
			return api.ErrState
		}
	case api.EntryScrap:
		if isOver(now) {
			return api.ErrState
		}
	}
	return api.OK
}

// isOver reports whether nothing more can be done with a board.
func isOver(now api.Status) bool {
	return now.State == api.BoardDone || now.State == api.BoardScrapped
}

// move changes a board by an entry that is not refused.
func (h *history) move(x api.Entry, number int) {
	b := &h.boards[number]
	if b.State == api.BoardRuns {
		h.runs = append(h.runs, run{board: b.name, step: b.Step, site: b.Site, from: b.Since, to: x.At, end: x.Kind})
		delete(h.running, b.Site)
	}
	b.Status = h.after(x, b.Status)
	if b.State == api.BoardRuns {
		h.running[b.Site] = number
	}
}

// after returns what the status of a board becomes by an entry that is not refused.
func (h *history) after(x api.Entry, now api.Status) api.Status {
	now.Since, now.Site = x.At, ""
	switch x.Kind {
	case api.EntryStart:
		now.State, now.Site = api.BoardRuns, x.Site
	case api.EntryPass:
		return h.waitsFor(slices.Index(h.flow.Steps, now.Step)+1, x.At)
	case api.EntryFail:
		now.Failed++
		now.State = api.BoardFailed
		if now.Failed == h.flow.Tries {
			now.State = api.BoardScrapped
		}
	case api.EntryRepair:
		now.State = api.BoardWaits
	case api.EntryScrap:
		now.State = api.BoardScrapped
	}
	return now
}

// waitsFor returns the status of a board that comes to a step; after the last step it is done.
func (h *history) waitsFor(step, at int) api.Status {
	if step == len(h.flow.Steps) {
		return api.Status{State: api.BoardDone, Since: at}
	}
	return api.Status{State: api.BoardWaits, Since: at, Step: h.flow.Steps[step]}
}
