package board

import (
	"iter"
	"slices"

	"scanchain/api"
)

// place is a cell: the index of its component, and its own index there.
type place struct{ part, cell int }

// wiring is a valid board with what is on its nets, by the indices of the nets.
type wiring struct {
	board     api.Board
	nets      []string
	netOf     map[api.Pair]int // of the pins that are on a net
	drivers   [][]place
	receivers [][]place
}

// wire returns CheckBoard's error.
func wire(b api.Board) (*wiring, api.Errno) {
	if e := CheckBoard(b); e != api.OK {
		return nil, e
	}
	w := &wiring{board: b, nets: netsOf(b.Joins), netOf: map[api.Pair]int{}}
	for _, join := range b.Joins {
		w.netOf[pinOf(join)], _ = find(w.nets, join.Net)
	}
	w.drivers = w.onNets(api.CellOutput)
	w.receivers = w.onNets(api.CellInput)
	return w, api.OK
}

// onNets returns the cells of a kind that are on each net.
func (w *wiring) onNets(kind int) [][]place {
	on := make([][]place, len(w.nets))
	for at, cell := range cellsOf(w.board) {
		net, joined := w.netOf[w.pin(at)]
		if joined && cell.Kind == kind {
			on[net] = append(on[net], at)
		}
	}
	return on
}

// net returns the index of a net.
func (w *wiring) net(name string) (int, api.Errno) {
	net, known := find(w.nets, name)
	if !known {
		return 0, api.ErrNone
	}
	return net, api.OK
}

func (w *wiring) pin(at place) api.Pair {
	part := w.board.Parts[at.part]
	return api.Pair{Name: part.Key, Value: part.Cells[at.cell].Pin}
}

// control returns the control cell of an output, and true; false if it has none.
func (w *wiring) control(output place) (place, bool) {
	cell := w.board.Parts[output.part].Cells[output.cell]
	if cell.Control == noControl {
		return place{}, false
	}
	return place{output.part, cell.Control}, true
}

// off returns the value of its control cell that disables an output.
func (w *wiring) off(output place) byte {
	return bitOf(w.board.Parts[output.part].Cells[output.cell].Off == 1)
}

// cellsOf goes through all cells, in the order of the components, then of the cells.
func cellsOf(b api.Board) iter.Seq2[place, api.Cell] {
	return func(yield func(place, api.Cell) bool) {
		for p, part := range b.Parts {
			for c, cell := range part.Cells {
				if !yield(place{p, c}, cell) {
					return
				}
			}
		}
	}
}

// pinsOfCells returns the pins that cells have: control and internal cells have none.
func pinsOfCells(b api.Board) map[api.Pair]bool {
	pins := map[api.Pair]bool{}
	for at, cell := range cellsOf(b) {
		if cell.Pin != "" {
			pins[api.Pair{Name: b.Parts[at.part].Key, Value: cell.Pin}] = true
		}
	}
	return pins
}

func pinOf(join api.Join) api.Pair {
	return api.Pair{Name: join.Part, Value: join.Pin}
}

// netsOf returns the nets of joins that are in order.
func netsOf(joins []api.Join) []string {
	var nets []string
	for _, join := range joins {
		nets = append(nets, join.Net)
	}
	return slices.Compact(nets)
}

func find(nets []string, name string) (int, bool) {
	return slices.BinarySearch(nets, name)
}

func bitOf(is bool) byte {
	if is {
		return '1'
	}
	return '0'
}
