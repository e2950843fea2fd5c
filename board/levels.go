package board

import (
	"scanchain/api"
	"scanchain/words"
)

// cellValues are the values of all cells, those of each component as bytes of a bit string.
type cellValues [][]byte

func valuesOf(bits []string) cellValues {
	var v cellValues
	for _, s := range bits {
		v = append(v, []byte(s))
	}
	return v
}

func (v cellValues) at(at place) byte {
	return v[at.part][at.cell]
}

func (v cellValues) set(at place, bit byte) {
	v[at.part][at.cell] = bit
}

func (v cellValues) bits() []string {
	var bits []string
	for _, cells := range v {
		bits = append(bits, string(cells))
	}
	return bits
}

// CheckBits says what is wrong with a board and bits.
func CheckBits(b api.Board, bits []string) api.Errno {
	_, e := wireWith(b, bits)
	return e
}

// wireWith returns CheckBits' error.
func wireWith(b api.Board, bits []string) (*wiring, api.Errno) {
	w, e := wire(b)
	if e != api.OK {
		return nil, e
	}
	if len(bits) != len(b.Parts) {
		return nil, api.ErrForm
	}
	for i, part := range b.Parts {
		if len(bits[i]) != len(part.Cells) || !words.IsBits(bits[i]) {
			return nil, api.ErrForm
		}
	}
	return w, api.OK
}

// Levels returns the levels of all nets.
func Levels(b api.Board, bits []string) ([]int, api.Errno) {
	w, e := wireWith(b, bits)
	if e != api.OK {
		return nil, e
	}
	return w.levels(valuesOf(bits)), api.OK
}

func (w *wiring) levels(v cellValues) []int {
	var levels []int
	for net := range w.nets {
		levels = append(levels, w.level(net, v))
	}
	return levels
}

func (w *wiring) level(net int, v cellValues) int {
	level := w.pull(w.nets[net])
	driven := false
	for _, at := range w.drivers[net] {
		if !w.drives(at, v) {
			continue
		}
		value := api.LevelLow
		if v.at(at) == '1' {
			value = api.LevelHigh
		}
		if driven && value != level {
			return api.LevelClash
		}
		level, driven = value, true
	}
	return level
}

// drives reports whether an output drives its pin.
func (w *wiring) drives(output place, v cellValues) bool {
	control, controlled := w.control(output)
	return !controlled || v.at(control) != w.off(output)
}

// pull returns the level of a net that nothing drives.
func (w *wiring) pull(net string) int {
	for _, pull := range w.board.Pulls {
		if pull.Net == net {
			return pull.Level
		}
	}
	return api.LevelFloat
}

// Captured returns the bits that all cells capture.
func Captured(b api.Board, bits []string) ([]string, api.Errno) {
	w, e := wireWith(b, bits)
	if e != api.OK {
		return nil, e
	}
	v := valuesOf(bits)
	levels := w.levels(v)
	for at, cell := range cellsOf(b) {
		if cell.Kind != api.CellInput {
			continue
		}
		net, joined := w.netOf[w.pin(at)]
		v.set(at, bitOf(!joined || levels[net] == api.LevelHigh || levels[net] == api.LevelFloat))
	}
	return v.bits(), api.OK
}

// Clashes returns the nets that clash.
func Clashes(b api.Board, bits []string) ([]string, api.Errno) {
	w, e := wireWith(b, bits)
	if e != api.OK {
		return nil, e
	}
	levels := w.levels(valuesOf(bits))
	return w.netsWhere(func(net int) bool { return levels[net] == api.LevelClash }), api.OK
}

// Seen returns the bits that the receivers of a net captured.
func Seen(b api.Board, captured []string, net string) (string, api.Errno) {
	w, e := wireWith(b, captured)
	if e != api.OK {
		return "", e
	}
	index, e := w.net(net)
	if e != api.OK {
		return "", e
	}
	var seen []byte
	for _, at := range w.receivers[index] {
		seen = append(seen, captured[at.part][at.cell])
	}
	return string(seen), api.OK
}
