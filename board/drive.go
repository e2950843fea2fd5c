package board

import (
	"bytes"
	"slices"

	"scanchain/api"
	"scanchain/words"
)

// Quiet returns bits with which as few outputs drive as can be.
func Quiet(b api.Board) ([]string, api.Errno) {
	w, e := wire(b)
	if e != api.OK {
		return nil, e
	}
	return w.quiet().bits(), api.OK
}

func (w *wiring) quiet() cellValues {
	var v cellValues
	for _, part := range w.board.Parts {
		v = append(v, bytes.Repeat([]byte{'0'}, len(part.Cells)))
	}
	// By control cell: how many more of its outputs 1 disables than 0.
	lead := map[place]int{}
	for at, cell := range cellsOf(w.board) {
		if control, controlled := w.control(at); controlled {
			lead[control] += 2*cell.Off - 1
			v.set(control, bitOf(lead[control] > 0))
		}
	}
	return v
}

// plan is the values with which nets are driven, as far as they are known. A control cell that is not fixed has its quiet value.
type plan struct {
	wiring *wiring
	values cellValues
	fixed  map[place]bool // control cells
}

// Drive returns bits with which nets have values.
func Drive(b api.Board, nets []string, values string) ([]string, api.Errno) {
	w, e := wire(b)
	if e != api.OK {
		return nil, e
	}
	if len(values) != len(nets) || !words.IsBits(values) {
		return nil, api.ErrForm
	}
	isNew := words.Fresh[string]()
	for _, name := range nets {
		if _, e := w.net(name); e != api.OK {
			return nil, e
		}
		if !isNew(name) {
			return nil, api.ErrTwice
		}
	}
	p := &plan{wiring: w, values: w.quiet(), fixed: map[place]bool{}}
	for i, name := range nets {
		net, _ := find(w.nets, name)
		if e := p.drive(net, values[i]); e != api.OK {
			return nil, e
		}
	}
	return p.values.bits(), api.OK
}

func (p *plan) drive(net int, value byte) api.Errno {
	drivers := p.wiring.drivers[net]
	chosen := slices.IndexFunc(drivers, p.canDrive)
	if chosen < 0 {
		return api.ErrRule
	}
	p.fix(drivers[chosen], true)
	for _, at := range drivers {
		// This leaves the chosen driver enabled, as its control cell is fixed.
		p.fix(at, false)
		if p.wiring.drives(at, p.values) {
			p.values.set(at, value)
		}
	}
	return api.OK
}

// canDrive reports whether an output is not fixed to be disabled.
func (p *plan) canDrive(output place) bool {
	control, controlled := p.wiring.control(output)
	return !controlled || !p.fixed[control] || p.wiring.drives(output, p.values)
}

// fix fixes the control cell of an output so that it is enabled or disabled, where there is one that is not fixed yet.
func (p *plan) fix(output place, enabled bool) {
	control, controlled := p.wiring.control(output)
	if !controlled || p.fixed[control] {
		return
	}
	p.fixed[control] = true
	p.values.set(control, bitOf((p.wiring.off(output) == '1') != enabled))
}
