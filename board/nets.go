package board

import (
	"slices"

	"scanchain/api"
)

// Nets returns the nets.
func Nets(b api.Board) ([]string, api.Errno) {
	w, e := wire(b)
	if e != api.OK {
		return nil, e
	}
	return w.nets, api.OK
}

// NetOf returns the net of a pin.
func NetOf(b api.Board, part, pin string) (string, bool, api.Errno) {
	w, e := wire(b)
	if e != api.OK {
		return "", false, e
	}
	asked := api.Pair{Name: part, Value: pin}
	if !pinsOfCells(b)[asked] {
		return "", false, api.ErrNone
	}
	net, joined := w.netOf[asked]
	if !joined {
		return "", false, api.OK
	}
	return w.nets[net], true, api.OK
}

// Pins returns the pins of a net.
func Pins(b api.Board, net string) ([]api.Pair, api.Errno) {
	w, e := wire(b)
	if e != api.OK {
		return nil, e
	}
	if _, e := w.net(net); e != api.OK {
		return nil, e
	}
	return w.pinsOn(net), api.OK
}

func (w *wiring) pinsOn(net string) []api.Pair {
	var pins []api.Pair
	for _, join := range w.board.Joins {
		if join.Net == net {
			pins = append(pins, pinOf(join))
		}
	}
	return pins
}

// Drivers returns the output cells on a net.
func Drivers(b api.Board, net string) ([]api.Spot, api.Errno) {
	return spotsOn(b, net, func(w *wiring) [][]place { return w.drivers })
}

// Receivers returns the input cells on a net.
func Receivers(b api.Board, net string) ([]api.Spot, api.Errno) {
	return spotsOn(b, net, func(w *wiring) [][]place { return w.receivers })
}

func spotsOn(b api.Board, name string, cells func(*wiring) [][]place) ([]api.Spot, api.Errno) {
	w, e := wire(b)
	if e != api.OK {
		return nil, e
	}
	net, e := w.net(name)
	if e != api.OK {
		return nil, e
	}
	var spots []api.Spot
	for _, at := range cells(w)[net] {
		spots = append(spots, api.Spot{Part: b.Parts[at.part].Key, Cell: at.cell})
	}
	return spots, api.OK
}

// Testable returns the nets with a driver and a receiver.
func Testable(b api.Board) ([]string, api.Errno) {
	w, e := wire(b)
	if e != api.OK {
		return nil, e
	}
	return w.netsWhere(func(net int) bool {
		return len(w.drivers[net]) > 0 && len(w.receivers[net]) > 0
	}), api.OK
}

// netsWhere returns the names of the nets whose indices are asked for.
func (w *wiring) netsWhere(asked func(net int) bool) []string {
	var names []string
	for net, name := range w.nets {
		if asked(net) {
			names = append(names, name)
		}
	}
	return names
}

// Unjoined returns the pins that are on no net.
func Unjoined(b api.Board) ([]api.Pair, api.Errno) {
	w, e := wire(b)
	if e != api.OK {
		return nil, e
	}
	var pins []api.Pair
	for pin := range pinsOfCells(b) {
		if _, joined := w.netOf[pin]; !joined {
			pins = append(pins, pin)
		}
	}
	slices.SortFunc(pins, comparePins)
	return pins, api.OK
}

// Differ returns the nets that are in one of two boards alone, and those that differ.
func Differ(x, y api.Board) ([]string, []string, []string, api.Errno) {
	first, e := wire(x)
	if e != api.OK {
		return nil, nil, nil, e
	}
	second, e := wire(y)
	if e != api.OK {
		return nil, nil, nil, e
	}
	return first.netsNotIn(second), second.netsNotIn(first), first.netsUnlike(second), api.OK
}

func (w *wiring) netsNotIn(other *wiring) []string {
	return w.netsWhere(func(net int) bool {
		_, both := find(other.nets, w.nets[net])
		return !both
	})
}

// netsUnlike returns the nets of both boards that have different pins or pulls.
func (w *wiring) netsUnlike(other *wiring) []string {
	return w.netsWhere(func(net int) bool {
		name := w.nets[net]
		_, both := find(other.nets, name)
		return both && (w.pull(name) != other.pull(name) || !slices.Equal(w.pinsOn(name), other.pinsOn(name)))
	})
}
