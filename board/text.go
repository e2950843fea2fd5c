package board

import (
	"strconv"

	"scanchain/api"
	"scanchain/words"
)

// The first words of lines.
const (
	partWord     = "part"
	inputWord    = "in"
	outputWord   = "out"
	controlWord  = "control"
	internalWord = "internal"
	joinWord     = "join"
	pullWord     = "pull"
)

// Text writes a line for each component, cell, join and pull.
func Text(b api.Board) (string, api.Errno) {
	if e := CheckBoard(b); e != api.OK {
		return "", e
	}
	return words.Write(func(line func(...string)) {
		for _, part := range b.Parts {
			line(partWord, part.Key)
			for _, cell := range part.Cells {
				line(cellWords(cell)...)
			}
		}
		for _, join := range b.Joins {
			line(joinWord, join.Net, join.Part, join.Pin)
		}
		for _, pull := range b.Pulls {
			line(pullWord, pull.Net, strconv.Itoa(pull.Level))
		}
	})
}

func cellWords(cell api.Cell) []string {
	switch {
	case cell.Kind == api.CellInput:
		return []string{inputWord, cell.Pin}
	case cell.Kind == api.CellControl:
		return []string{controlWord}
	case cell.Kind == api.CellInternal:
		return []string{internalWord}
	case cell.Control == noControl:
		return []string{outputWord, cell.Pin}
	}
	return []string{outputWord, cell.Pin, strconv.Itoa(cell.Control), strconv.Itoa(cell.Off)}
}

// Read reads a board.
func Read(text string) (api.Board, int, api.Errno) {
	if len(text) > api.MaxText {
		return api.Board{}, 0, api.ErrLarge
	}
	var b api.Board
	number, good := words.Lines(text, func(line string) bool { return addLine(&b, line) })
	if !good {
		return api.Board{}, number, api.ErrSyntax
	}
	if e := CheckBoard(b); e != api.OK {
		return api.Board{}, 0, e
	}
	return b, 0, api.OK
}

// addLine adds to a board what a line says; false if it is not a line of a board, or not in its place.
func addLine(b *api.Board, line string) bool {
	parts, good := words.Split(line)
	if !good {
		return false
	}
	switch parts[0] {
	case joinWord:
		return addJoin(b, parts)
	case pullWord:
		return addPull(b, parts)
	}
	if len(b.Joins) > 0 || len(b.Pulls) > 0 {
		return false
	}
	if parts[0] == partWord {
		return addPart(b, parts)
	}
	return addCell(b, parts)
}

func addPart(b *api.Board, parts []string) bool {
	if len(parts) != 2 {
		return false
	}
	b.Parts = append(b.Parts, api.Component{Key: parts[1]})
	return true
}

func addCell(b *api.Board, parts []string) bool {
	cell, good := readCell(parts)
	if !good || len(b.Parts) == 0 {
		return false
	}
	last := &b.Parts[len(b.Parts)-1]
	last.Cells = append(last.Cells, cell)
	return true
}

func readCell(parts []string) (api.Cell, bool) {
	word, long := parts[0], len(parts)
	switch {
	case word == inputWord && long == 2:
		return api.Cell{Kind: api.CellInput, Pin: parts[1], Control: noControl}, true
	case word == outputWord && long == 2:
		return api.Cell{Kind: api.CellOutput, Pin: parts[1], Control: noControl}, true
	case word == outputWord && long == 4:
		control, isControl := words.Number(parts[2])
		off, isOff := words.Number(parts[3])
		// An output without a control cell is written in the other form.
		return api.Cell{Kind: api.CellOutput, Pin: parts[1], Control: control, Off: off}, isControl && isOff && control != noControl
	case word == controlWord && long == 1:
		return api.Cell{Kind: api.CellControl, Control: noControl}, true
	case word == internalWord && long == 1:
		return api.Cell{Kind: api.CellInternal, Control: noControl}, true
	}
	return api.Cell{}, false
}

func addJoin(b *api.Board, parts []string) bool {
	if len(parts) != 4 || len(b.Pulls) > 0 {
		return false
	}
	b.Joins = append(b.Joins, api.Join{Net: parts[1], Part: parts[2], Pin: parts[3]})
	return true
}

func addPull(b *api.Board, parts []string) bool {
	if len(parts) != 3 {
		return false
	}
	level, good := words.Number(parts[2])
	b.Pulls = append(b.Pulls, api.Pull{Net: parts[1], Level: level})
	return good
}
