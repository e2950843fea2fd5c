package board

import (
	"math/rand/v2"
	"slices"
	"strings"
	"testing"

	"scanchain/api"
)

func randomBits(r *rand.Rand, b api.Board) []string {
	var bits []string
	for _, part := range b.Parts {
		s := ""
		for range part.Cells {
			s += string(rune('0' + r.IntN(2)))
		}
		bits = append(bits, s)
	}
	return bits
}

// randomBoard has few nets, so that each one has several drivers and receivers.
func randomBoard(r *rand.Rand) api.Board {
	var b api.Board
	for p := range r.IntN(5) {
		part := api.Component{Key: numbered(p)}
		long := r.IntN(9)
		for c := range long {
			part.Cells = append(part.Cells, []api.Cell{in(numbered(c / 2)), out(numbered(c / 2)), out(numbered(100 + c)), control(), internal()}[r.IntN(5)])
		}
		giveControls(r, part.Cells)
		if checkCells(part.Cells) == api.OK {
			b.Parts = append(b.Parts, part)
		}
	}
	nets := 1 + r.IntN(4)
	seen := map[api.Pair]bool{}
	for _, part := range b.Parts {
		for _, cell := range part.Cells {
			pin := api.Pair{Name: part.Key, Value: cell.Pin}
			if cell.Pin != "" && !seen[pin] && r.IntN(6) > 0 {
				b.Joins = append(b.Joins, api.Join{Net: numbered(r.IntN(nets)), Part: part.Key, Pin: cell.Pin})
			}
			seen[pin] = true
		}
	}
	slices.SortFunc(b.Joins, compareJoins)
	last := ""
	for _, join := range b.Joins {
		if join.Net != last && r.IntN(2) == 0 {
			b.Pulls = append(b.Pulls, api.Pull{Net: join.Net, Level: r.IntN(2)})
		}
		last = join.Net
	}
	return b
}

func giveControls(r *rand.Rand, cells []api.Cell) {
	var controls []int
	for i, cell := range cells {
		if cell.Kind == api.CellControl {
			controls = append(controls, i)
		}
	}
	for i := range cells {
		if cells[i].Kind == api.CellOutput && len(controls) > 0 && r.IntN(5) > 0 {
			cells[i].Control, cells[i].Off = controls[r.IntN(len(controls))], r.IntN(2)
		}
	}
}

func randomBoards(t *testing.T, count int, do func(r *rand.Rand, b api.Board)) {
	t.Helper()
	r := rand.New(rand.NewPCG(2, 3))
	for range count {
		b := randomBoard(r)
		if e := CheckBoard(b); e != api.OK {
			t.Fatal(b, e)
		}
		do(r, b)
	}
}

// plainDrives reports whether a cell is an output that drives, as P2.3 says.
func plainDrives(cells []api.Cell, i int, bits string) bool {
	if cells[i].Kind != api.CellOutput {
		return false
	}
	return cells[i].Control == -1 || int(bits[cells[i].Control]-'0') != cells[i].Off
}

// plainLevels does as P2.3 says with the joins of each net.
func plainLevels(b api.Board, bits []string) map[string]int {
	levels := map[string]int{}
	for _, join := range b.Joins {
		levels[join.Net] = api.LevelFloat
	}
	for _, pull := range b.Pulls {
		levels[pull.Net] = pull.Level
	}
	driven := map[string]string{}
	for _, join := range b.Joins {
		for p, part := range b.Parts {
			for c, cell := range part.Cells {
				if part.Key == join.Part && cell.Pin == join.Pin && plainDrives(part.Cells, c, bits[p]) {
					driven[join.Net] += bits[p][c : c+1]
				}
			}
		}
	}
	for net, values := range driven {
		levels[net] = int(values[0] - '0')
		if strings.Contains(values, "0") && strings.Contains(values, "1") {
			levels[net] = api.LevelClash
		}
	}
	return levels
}

func TestLevels(t *testing.T) {
	b := fullBoard()
	for _, c := range []struct {
		bits     []string
		levels   []int
		captured []string
		clashes  []string
	}{
		// Of m a.y drives, of n nothing, of o b.q; nothing drives p.
		{[]string{"000000", "001000", ""}, []int{0, 0, 0, 2}, []string{"000001", "001001", ""}, nil},
		{[]string{"100010", "001100", ""}, []int{1, 0, 0, 2}, []string{"100011", "001111", ""}, nil},
		// Of m nothing drives, of n a.x.
		{[]string{"110110", "111111", ""}, []int{1, 1, 1, 2}, []string{"111111", "111111", ""}, nil},
		{[]string{"010100", "001000", ""}, []int{1, 0, 0, 2}, []string{"010101", "001011", ""}, nil},
		// Of m both drive.
		{[]string{"000010", "000000", ""}, []int{3, 0, 0, 2}, []string{"000011", "000001", ""}, []string{"m"}},
		{[]string{"000000", "000110", ""}, []int{3, 0, 0, 2}, []string{"000001", "000101", ""}, []string{"m"}},
		{[]string{"000010", "000100", ""}, []int{1, 0, 0, 2}, []string{"000011", "000111", ""}, nil},
		{[]string{"000000", "000000", ""}, []int{0, 0, 0, 2}, []string{"000001", "000001", ""}, nil},
	} {
		wantList(t, "levels", c.levels...)(Levels(b, c.bits))
		wantList(t, "captured", c.captured...)(Captured(b, c.bits))
		wantList(t, "clashes", c.clashes...)(Clashes(b, c.bits))
	}
}

func TestLevelsOfExample(t *testing.T) {
	b := api.Board{
		Parts: []api.Component{{Key: "u", Cells: []api.Cell{outBy("a", 1, 0), control(), in("b")}}, {Key: "v", Cells: []api.Cell{in("a")}}},
		Joins: []api.Join{{Net: "n", Part: "u", Pin: "a"}, {Net: "n", Part: "u", Pin: "b"}, {Net: "n", Part: "v", Pin: "a"}},
	}
	wantList(t, "levels", api.LevelHigh)(Levels(b, []string{"110", "0"}))
	wantList(t, "captured", "111", "1")(Captured(b, []string{"110", "0"}))
}

func TestLevelsOfRandomBoards(t *testing.T) {
	clashes := 0
	randomBoards(t, 3000, func(r *rand.Rand, b api.Board) {
		bits := randomBits(r, b)
		plain := plainLevels(b, bits)
		nets, _ := Nets(b)
		var levels []int
		var clash []string
		for _, net := range nets {
			levels = append(levels, plain[net])
			if plain[net] == api.LevelClash {
				clash = append(clash, net)
			}
		}
		clashes += len(clash)
		wantList(t, "levels", levels...)(Levels(b, bits))
		wantList(t, "clashes", clash...)(Clashes(b, bits))
		var captured []string
		for p, part := range b.Parts {
			s := []byte(bits[p])
			for c, cell := range part.Cells {
				if cell.Kind == api.CellInput {
					net, joined, _ := NetOf(b, part.Key, cell.Pin)
					s[c] = '1'
					if joined && (plain[net] == api.LevelLow || plain[net] == api.LevelClash) {
						s[c] = '0'
					}
				}
			}
			captured = append(captured, string(s))
		}
		wantList(t, "captured", captured...)(Captured(b, bits))
	})
	if clashes < 100 {
		t.Error("too few clashes", clashes)
	}
}

func TestLevelsOfEmptyBoard(t *testing.T) {
	wantList[int](t, "levels")(Levels(api.Board{}, nil))
	wantList[string](t, "captured")(Captured(api.Board{}, []string{}))
	wantList[string](t, "clashes")(Clashes(api.Board{}, nil))
	wantList[string](t, "quiet")(Quiet(api.Board{}))
	if e := CheckBits(api.Board{}, nil); e != api.OK {
		t.Error(e)
	}
}

func TestBitsErrors(t *testing.T) {
	b := fullBoard()
	if e := CheckBits(b, []string{"010101", "101010", ""}); e != api.OK {
		t.Error(e)
	}
	for _, bits := range [][]string{
		nil,
		{"010101", "101010"},
		{"010101", "101010", "", ""},
		{"01010", "101010", ""},
		{"010101", "1010100", ""},
		{"010101", "101010", "0"},
		{"", "", ""},
		{"01010x", "101010", ""},
		{"010101", "10 010", ""},
		{"010101", "\x001010", ""},
	} {
		if e := CheckBits(b, bits); e != api.ErrForm {
			t.Error(bits, e)
		}
		if r, e := Levels(b, bits); e != api.ErrForm || len(r) != 0 {
			t.Error(bits, r, e)
		}
		if r, e := Captured(b, bits); e != api.ErrForm || len(r) != 0 {
			t.Error(bits, r, e)
		}
		if r, e := Clashes(b, bits); e != api.ErrForm || len(r) != 0 {
			t.Error(bits, r, e)
		}
		if r, e := Seen(b, bits, "none"); e != api.ErrForm || r != "" {
			t.Error(bits, r, e)
		}
	}
}

func TestSeen(t *testing.T) {
	b := fullBoard()
	for _, c := range []struct{ net, want string }{{"m", "0"}, {"n", "10"}, {"o", ""}, {"p", "1"}} {
		if s, e := Seen(b, []string{"001000", "000001", ""}, c.net); e != api.OK || s != c.want {
			t.Error(c.net, s, e)
		}
	}
	if s, e := Seen(b, []string{"000000", "100010", ""}, "n"); e != api.OK || s != "01" {
		t.Error(s, e)
	}
	for _, net := range []string{"", "q", "N"} {
		if s, e := Seen(b, []string{"000000", "000000", ""}, net); e != api.ErrNone || s != "" {
			t.Error(net, s, e)
		}
	}
}
