// Package board has boards with boundary cells, and the levels of their nets.
package board

import (
	"cmp"

	"scanchain/api"
	"scanchain/words"
)

// noControl is the Control of a cell without a control cell.
const noControl = -1

// CheckBoard says what is wrong with a board.
func CheckBoard(b api.Board) api.Errno {
	if e := checkParts(b.Parts); e != api.OK {
		return e
	}
	if e := checkJoins(b); e != api.OK {
		return e
	}
	return checkPulls(b)
}

func checkParts(parts []api.Component) api.Errno {
	if len(parts) > api.MaxParts {
		return api.ErrLarge
	}
	before := ""
	for _, part := range parts {
		switch {
		case !words.IsKey(part.Key):
			return api.ErrName
		case part.Key <= before:
			return api.ErrOrder
		case len(part.Cells) > api.MaxCells:
			return api.ErrLarge
		}
		if e := checkCells(part.Cells); e != api.OK {
			return e
		}
		before = part.Key
	}
	return api.OK
}

func checkCells(cells []api.Cell) api.Errno {
	for _, cell := range cells {
		if e := checkCell(cells, cell); e != api.OK {
			return e
		}
	}
	isNew := words.Fresh[api.Cell]()
	for _, cell := range cells {
		if cell.Pin != "" && !isNew(api.Cell{Kind: cell.Kind, Pin: cell.Pin}) {
			return api.ErrTwice
		}
	}
	return api.OK
}

func checkCell(cells []api.Cell, cell api.Cell) api.Errno {
	switch cell.Kind {
	case api.CellInput, api.CellOutput:
		if !words.IsKey(cell.Pin) {
			return api.ErrName
		}
	case api.CellControl, api.CellInternal:
		if cell.Pin != "" {
			return api.ErrForm
		}
	default:
		return api.ErrKind
	}
	if cell.Kind == api.CellOutput {
		return checkControl(cells, cell)
	}
	if cell.Control != noControl || cell.Off != 0 {
		return api.ErrForm
	}
	return api.OK
}

// checkControl says what is wrong with the control cell of an output.
func checkControl(cells []api.Cell, output api.Cell) api.Errno {
	if output.Control == noControl {
		if output.Off != 0 {
			return api.ErrArg
		}
		return api.OK
	}
	if output.Control < 0 || output.Control >= len(cells) || cells[output.Control].Kind != api.CellControl {
		return api.ErrNone
	}
	if !isBit(output.Off) {
		return api.ErrArg
	}
	return api.OK
}

// checkJoins is for a board with valid components.
func checkJoins(b api.Board) api.Errno {
	if len(b.Joins) > api.MaxJoins {
		return api.ErrLarge
	}
	pins := pinsOfCells(b)
	var before api.Join
	for _, join := range b.Joins {
		switch {
		case !words.IsKey(join.Net):
			return api.ErrName
		case !pins[pinOf(join)]:
			return api.ErrNone
		case compareJoins(join, before) <= 0:
			return api.ErrOrder
		}
		before = join
	}
	isNew := words.Fresh[api.Pair]()
	for _, join := range b.Joins {
		if !isNew(pinOf(join)) {
			return api.ErrTwice
		}
	}
	if len(netsOf(b.Joins)) > api.MaxNets {
		return api.ErrLarge
	}
	return api.OK
}

func compareJoins(x, y api.Join) int {
	return cmp.Or(cmp.Compare(x.Net, y.Net), comparePins(pinOf(x), pinOf(y)))
}

func comparePins(x, y api.Pair) int {
	return cmp.Or(cmp.Compare(x.Name, y.Name), cmp.Compare(x.Value, y.Value))
}

// checkPulls is for a board with valid joins.
func checkPulls(b api.Board) api.Errno {
	nets := netsOf(b.Joins)
	before := ""
	for _, pull := range b.Pulls {
		switch _, known := find(nets, pull.Net); {
		case !known:
			return api.ErrNone
		case !isBit(pull.Level):
			return api.ErrArg
		case pull.Net <= before:
			return api.ErrOrder
		}
		before = pull.Net
	}
	return api.OK
}

func isBit(n int) bool {
	return n == 0 || n == 1
}
