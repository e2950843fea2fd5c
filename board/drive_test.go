package board

import (
	"math/rand/v2"
	"slices"
	"strings"
	"testing"

	"scanchain/api"
)

func countDriving(b api.Board, bits []string) int {
	count := 0
	for p, part := range b.Parts {
		for c := range part.Cells {
			if plainDrives(part.Cells, c, bits[p]) {
				count++
			}
		}
	}
	return count
}

// plainQuiet tries both values of each control cell.
func plainQuiet(b api.Board) []string {
	var bits []string
	for _, part := range b.Parts {
		bits = append(bits, strings.Repeat("0", len(part.Cells)))
	}
	for p, part := range b.Parts {
		for c, cell := range part.Cells {
			if cell.Kind != api.CellControl {
				continue
			}
			with := slices.Clone(bits)
			with[p] = bits[p][:c] + "1" + bits[p][c+1:]
			if countDriving(b, with) < countDriving(b, bits) {
				bits = with
			}
		}
	}
	return bits
}

func TestQuiet(t *testing.T) {
	// The outputs of a's control cell are as many for both values; 1 disables that of b.
	wantList(t, "full", "000000", "001000", "")(Quiet(fullBoard()))
	for _, c := range []struct {
		want string
		offs []int
	}{{"0", nil}, {"0", []int{0}}, {"1", []int{1}}, {"0", []int{0, 1}}, {"0", []int{1, 0}}, {"1", []int{1, 0, 1}}, {"0", []int{1, 0, 0}}, {"0", []int{0, 1, 1, 0}}} {
		cells := []api.Cell{control(), in("i"), internal(), out("o"), control()}
		for i, off := range c.offs {
			cells = append(cells, outBy(numbered(i), 0, off))
		}
		want := c.want + "0000" + strings.Repeat("0", len(c.offs))
		wantList(t, "quiet", want)(Quiet(api.Board{Parts: []api.Component{{Key: "u", Cells: cells}}}))
	}
	randomBoards(t, 1000, func(r *rand.Rand, b api.Board) {
		wantList(t, "random", plainQuiet(b)...)(Quiet(b))
	})
}

// plainDrive does as P2.4 says, cell by cell, with the cells by their names.
type plainDrive struct {
	b     api.Board
	fixed map[api.Spot]int
	value map[api.Spot]byte
}

func (m *plainDrive) cell(at api.Spot) api.Cell {
	i := slices.IndexFunc(m.b.Parts, func(part api.Component) bool { return part.Key == at.Part })
	return m.b.Parts[i].Cells[at.Cell]
}

// enabled reports whether a driver is enabled so far, and whether that is fixed.
func (m *plainDrive) enabled(at api.Spot) (bool, bool) {
	cell := m.cell(at)
	if cell.Control == -1 {
		return true, true
	}
	value, fixed := m.fixed[api.Spot{Part: at.Part, Cell: cell.Control}]
	return value != cell.Off, fixed
}

func (m *plainDrive) net(net string, value byte) bool {
	drivers, _ := Drivers(m.b, net)
	for i, at := range drivers {
		if on, fixed := m.enabled(at); fixed && !on {
			continue
		}
		m.value[at] = value
		if cell := m.cell(at); cell.Control != -1 {
			m.fixed[api.Spot{Part: at.Part, Cell: cell.Control}] = 1 - cell.Off
		}
		for j, other := range drivers {
			if j == i {
				continue
			}
			cell := m.cell(other)
			if _, fixed := m.enabled(other); !fixed {
				m.fixed[api.Spot{Part: other.Part, Cell: cell.Control}] = cell.Off
			}
			if on, _ := m.enabled(other); on {
				m.value[other] = value
			}
		}
		return true
	}
	return false
}

func (m *plainDrive) bits() []string {
	bits := plainQuiet(m.b)
	for p, part := range m.b.Parts {
		s := []byte(bits[p])
		for c, cell := range part.Cells {
			at := api.Spot{Part: part.Key, Cell: c}
			if value, fixed := m.fixed[at]; fixed && cell.Kind == api.CellControl {
				s[c] = '0' + byte(value)
			}
			if value, given := m.value[at]; given {
				s[c] = value
			}
		}
		bits[p] = string(s)
	}
	return bits
}

func wantDrive(t *testing.T, b api.Board, nets []string, values string, want ...string) {
	t.Helper()
	wantList(t, strings.Join(nets, " ")+" "+values, want...)(Drive(b, nets, values))
}

func TestDrive(t *testing.T) {
	b := fullBoard()
	// Without nets it is quiet; o has a driver that cannot be disabled, with the value 0.
	wantDrive(t, b, nil, "", "000000", "001000", "")
	wantDrive(t, b, []string{"o"}, "1", "000000", "011000", "")
	// The first driver of m is chosen, the second one is disabled.
	wantDrive(t, b, []string{"m"}, "1", "000010", "001000", "")
	wantDrive(t, b, []string{"m"}, "0", "000000", "001000", "")
	// n fixes the control cell of a to 1: then only b drives m.
	wantDrive(t, b, []string{"n", "m"}, "11", "110000", "000100", "")
	wantDrive(t, b, []string{"n", "m"}, "10", "110000", "000000", "")
	wantDrive(t, b, []string{"n", "m", "o"}, "011", "010000", "010100", "")
	// m fixes it to 0: then n cannot be driven.
	for _, nets := range [][]string{{"m", "n"}, {"p"}, {"n", "p"}, {"p", "n"}} {
		if bits, e := Drive(b, nets, "11"[:len(nets)]); e != api.ErrRule || len(bits) != 0 {
			t.Error(nets, bits, e)
		}
	}
}

func TestDriveWithSharedControls(t *testing.T) {
	board := func(cells ...api.Cell) api.Board {
		b := api.Board{Parts: []api.Component{{Key: "u", Cells: cells}}}
		for _, cell := range cells {
			if cell.Pin != "" {
				b.Joins = append(b.Joins, api.Join{Net: "n" + cell.Pin[:1], Part: "u", Pin: cell.Pin})
			}
		}
		slices.SortFunc(b.Joins, compareJoins)
		return b
	}
	// An output that is enabled with the chosen one gets its value; one that is enabled by the other value does not drive.
	wantDrive(t, board(outBy("a1", 3, 0), outBy("a2", 3, 0), outBy("a3", 3, 1), control()), []string{"na"}, "1", "1101")
	// Outputs without control cells get the value too, whether they come before or after the chosen one.
	wantDrive(t, board(out("a1"), outBy("a2", 2, 0), control(), out("a3")), []string{"na"}, "1", "1001")
	wantDrive(t, board(outBy("a1", 1, 0), control(), out("a2")), []string{"na"}, "1", "111")
	// The first one is chosen though one without a control cell comes later.
	wantDrive(t, board(outBy("a1", 1, 1), control(), out("a2")), []string{"na"}, "1", "101")
	// What disables an output of one net enables one of the next net: it is not chosen, as it is not the first one, but gets the value.
	wantDrive(t, board(out("a1"), outBy("a2", 2, 0), control(), outBy("b1", 4, 0), control(), outBy("b2", 2, 1)), []string{"na", "nb"}, "11", "100111")
	// What disables it disables one of the next net, too: the one after it is chosen.
	wantDrive(t, board(out("a1"), outBy("a2", 2, 0), control(), outBy("b1", 2, 0), outBy("b2", 5, 0), control()), []string{"na", "nb"}, "11", "100011")
	// An output of the next net that is enabled already is not disabled.
	wantDrive(t, board(outBy("a1", 1, 0), control(), outBy("b1", 3, 0), control(), outBy("b2", 1, 0)), []string{"na", "nb"}, "01", "01111")
	// Control cells that are not fixed are quiet.
	wantDrive(t, board(out("a1"), control(), outBy("b1", 1, 1), outBy("b2", 1, 1)), []string{"na"}, "1", "1100")
	// All drivers of the second net are fixed to be disabled.
	b := board(outBy("a1", 1, 0), control(), outBy("b1", 1, 1), outBy("b2", 1, 1))
	if bits, e := Drive(b, []string{"na", "nb"}, "00"); e != api.ErrRule || len(bits) != 0 {
		t.Error(bits, e)
	}
}

func TestDriveErrors(t *testing.T) {
	b := fullBoard()
	for _, c := range []struct {
		nets   []string
		values string
		want   api.Errno
	}{
		{nil, "0", api.ErrForm},
		{[]string{"m"}, "", api.ErrForm},
		{[]string{"q"}, "00", api.ErrForm},
		{[]string{"q", "q"}, "0x", api.ErrForm},
		{[]string{"m", "q"}, "00", api.ErrNone},
		{[]string{""}, "0", api.ErrNone},
		{[]string{"M"}, "0", api.ErrNone},
		{[]string{"p", "p"}, "00", api.ErrTwice},
		{[]string{"m", "o", "m"}, "010", api.ErrTwice},
		{[]string{"m", "m", "q"}, "000", api.ErrTwice},
		{[]string{"q", "m", "m"}, "000", api.ErrNone},
		{[]string{"p", "q"}, "00", api.ErrNone},
		{[]string{"p"}, "0", api.ErrRule},
	} {
		if bits, e := Drive(b, c.nets, c.values); e != c.want || len(bits) != 0 {
			t.Error(c.nets, c.values, bits, e)
		}
	}
}

func TestDriveOfRandomBoards(t *testing.T) {
	counts := map[bool]int{}
	randomBoards(t, 3000, func(r *rand.Rand, b api.Board) {
		nets, _ := Nets(b)
		r.Shuffle(len(nets), func(i, j int) { nets[i], nets[j] = nets[j], nets[i] })
		nets = nets[:r.IntN(len(nets)+1)]
		m := &plainDrive{b: b, fixed: map[api.Spot]int{}, value: map[api.Spot]byte{}}
		values, can := "", true
		for _, net := range nets {
			value := "01"[r.IntN(2)]
			values += string(rune(value))
			can = can && m.net(net, value)
		}
		counts[can]++
		if !can {
			if bits, e := Drive(b, nets, values); e != api.ErrRule || len(bits) != 0 {
				t.Error(bits, e)
			}
			return
		}
		wantDrive(t, b, nets, values, m.bits()...)
		wantDriven(t, b, nets, values)
	})
	if counts[true] < 500 || counts[false] < 200 {
		t.Error(counts)
	}
}

// wantDriven checks what follows from P2.4.
func wantDriven(t *testing.T, b api.Board, nets []string, values string) {
	t.Helper()
	bits, _ := Drive(b, nets, values)
	wantList[string](t, "clashes")(Clashes(b, bits))
	levels := plainLevels(b, bits)
	captured, _ := Captured(b, bits)
	for i, net := range nets {
		if levels[net] != int(values[i]-'0') {
			t.Error(net, values[i:i+1], levels[net])
		}
		receivers, _ := Receivers(b, net)
		if seen, e := Seen(b, captured, net); e != api.OK || seen != strings.Repeat(values[i:i+1], len(receivers)) {
			t.Error(net, values[i:i+1], seen, e)
		}
	}
}
