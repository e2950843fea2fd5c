package board

import (
	"math"
	"slices"
	"strconv"
	"strings"
	"testing"

	"scanchain/api"
)

func in(pin string) api.Cell { return api.Cell{Kind: api.CellInput, Pin: pin, Control: -1} }

func out(pin string) api.Cell { return api.Cell{Kind: api.CellOutput, Pin: pin, Control: -1} }

func outBy(pin string, control, off int) api.Cell {
	return api.Cell{Kind: api.CellOutput, Pin: pin, Control: control, Off: off}
}

func control() api.Cell { return api.Cell{Kind: api.CellControl, Control: -1} }

func internal() api.Cell { return api.Cell{Kind: api.CellInternal, Control: -1} }

// fullBoard has all that a board can have.
func fullBoard() api.Board {
	return api.Board{
		Parts: []api.Component{
			{Key: "a", Cells: []api.Cell{outBy("x", 1, 0), control(), in("x"), internal(), outBy("y", 1, 1), in("z")}},
			{Key: "b", Cells: []api.Cell{in("p"), out("q"), control(), outBy("r", 2, 1), in("r"), in("s")}},
			{Key: "c"},
		},
		Joins: []api.Join{{Net: "m", Part: "a", Pin: "y"}, {Net: "m", Part: "b", Pin: "r"}, {Net: "n", Part: "a", Pin: "x"}, {Net: "n", Part: "b", Pin: "p"}, {Net: "o", Part: "b", Pin: "q"}, {Net: "p", Part: "b", Pin: "s"}},
		Pulls: []api.Pull{{Net: "m", Level: 1}, {Net: "n", Level: 0}},
	}
}

// numbered returns a key for each number from 0 to 999, rising with it.
func numbered(n int) string { return "k" + strconv.Itoa(1000 + n)[1:] }

func manyParts(parts, cells int) []api.Component {
	var l []api.Component
	for p := range parts {
		part := api.Component{Key: numbered(p)}
		for c := range cells {
			part.Cells = append(part.Cells, in(numbered(c)))
		}
		l = append(l, part)
	}
	return l
}

// manyNets joins each pin of manyParts, with as many nets as are asked for.
func manyNets(parts []api.Component, joins, nets int) []api.Join {
	var l []api.Join
	for _, part := range parts {
		for _, cell := range part.Cells {
			if len(l) < joins {
				net := min(len(l), nets-1)
				l = append(l, api.Join{Net: numbered(net), Part: part.Key, Pin: cell.Pin})
			}
		}
	}
	return l
}

func largeBoard(joins, nets int) api.Board {
	parts := manyParts(api.MaxParts, api.MaxCells)
	return api.Board{Parts: parts, Joins: manyNets(parts, joins, nets)}
}

func TestValidBoards(t *testing.T) {
	key := strings.Repeat("k", api.MaxName)
	for i, b := range []api.Board{
		{},
		fullBoard(),
		{Parts: []api.Component{{Key: key, Cells: []api.Cell{in(key), out(key)}}}, Joins: []api.Join{{Net: key, Part: key, Pin: key}}},
		{Parts: []api.Component{{Key: "a", Cells: []api.Cell{outBy("x", 2, 1), outBy("y", 2, 0), control()}}}},
		{Parts: []api.Component{{Key: "a", Cells: []api.Cell{in("x")}}, {Key: "b", Cells: []api.Cell{in("x")}}}},
		largeBoard(api.MaxJoins, api.MaxNets),
	} {
		if e := CheckBoard(b); e != api.OK {
			t.Error(i, e)
		}
	}
}

// change is what makes a board invalid.
type change struct {
	name string
	do   func(b *api.Board)
	want api.Errno
}

func partChanges() []change {
	return []change{
		{"parts", func(b *api.Board) { b.Parts = manyParts(api.MaxParts+1, 0) }, api.ErrLarge},
		{"no key", func(b *api.Board) { b.Parts[0].Key = "" }, api.ErrName},
		{"large letter", func(b *api.Board) { b.Parts[1].Key = "B" }, api.ErrName},
		{"long key", func(b *api.Board) { b.Parts[1].Key = strings.Repeat("b", api.MaxName+1) }, api.ErrName},
		{"key twice", func(b *api.Board) { b.Parts[1].Key = "a" }, api.ErrOrder},
		{"key order", func(b *api.Board) { b.Parts[2].Key = "ab" }, api.ErrOrder},
		{"cells", func(b *api.Board) { b.Parts[2].Cells = manyParts(1, api.MaxCells+1)[0].Cells }, api.ErrLarge},
	}
}

func cellChanges() []change {
	cell := func(index int, c api.Cell) func(b *api.Board) {
		return func(b *api.Board) { b.Parts[0].Cells[index] = c }
	}
	return []change{
		{"kind 0", func(b *api.Board) { b.Parts[0].Cells[3].Kind = 0 }, api.ErrKind},
		{"kind 5", func(b *api.Board) { b.Parts[0].Cells[3].Kind = 5 }, api.ErrKind},
		{"kind least", func(b *api.Board) { b.Parts[1].Cells[0].Kind = math.MinInt }, api.ErrKind},
		{"input without pin", cell(5, in("")), api.ErrName},
		{"output without pin", cell(0, outBy("", 1, 0)), api.ErrName},
		{"pin", cell(5, in("Z")), api.ErrName},
		{"pin of output", cell(4, outBy("y ", 1, 1)), api.ErrName},
		{"pin of control", cell(1, api.Cell{Kind: api.CellControl, Pin: "c", Control: -1}), api.ErrForm},
		{"pin of internal", cell(3, api.Cell{Kind: api.CellInternal, Pin: "?", Control: -1}), api.ErrForm},
		{"control -2", cell(0, outBy("x", -2, 0)), api.ErrNone},
		{"control too large", cell(0, outBy("x", 6, 0)), api.ErrNone},
		{"control least", cell(0, outBy("x", math.MinInt, 0)), api.ErrNone},
		{"control most", cell(0, outBy("x", math.MaxInt, 1)), api.ErrNone},
		{"control is an output", cell(0, outBy("x", 0, 0)), api.ErrNone},
		{"control is an input", cell(0, outBy("x", 2, 0)), api.ErrNone},
		{"control is internal", cell(0, outBy("x", 3, 0)), api.ErrNone},
		{"off -1", cell(0, outBy("x", 1, -1)), api.ErrArg},
		{"off 2", cell(0, outBy("x", 1, 2)), api.ErrArg},
		{"off most", cell(0, outBy("x", 1, math.MaxInt)), api.ErrArg},
		{"off without control", cell(0, outBy("x", -1, 1)), api.ErrArg},
		{"off below 0 without control", cell(0, outBy("x", -1, -1)), api.ErrArg},
		{"control of input", cell(2, api.Cell{Kind: api.CellInput, Pin: "x", Control: 1}), api.ErrForm},
		{"control 0 of input", cell(2, api.Cell{Kind: api.CellInput, Pin: "x"}), api.ErrForm},
		{"off of input", cell(2, api.Cell{Kind: api.CellInput, Pin: "x", Control: -1, Off: 1}), api.ErrForm},
		{"control of control", cell(1, api.Cell{Kind: api.CellControl, Control: 1}), api.ErrForm},
		{"off of control", cell(1, api.Cell{Kind: api.CellControl, Control: -1, Off: 1}), api.ErrForm},
		{"control of internal", cell(3, api.Cell{Kind: api.CellInternal, Control: 0}), api.ErrForm},
		{"off of internal", cell(3, api.Cell{Kind: api.CellInternal, Control: -1, Off: -1}), api.ErrForm},
		{"inputs of a pin", cell(5, in("x")), api.ErrTwice},
		{"outputs of a pin", cell(4, outBy("x", 1, 1)), api.ErrTwice},
		{"outputs of a pin, one without control", cell(4, out("x")), api.ErrTwice},
	}
}

func joinChanges() []change {
	join := func(index int, net, part, pin string) func(b *api.Board) {
		return func(b *api.Board) { b.Joins[index] = api.Join{Net: net, Part: part, Pin: pin} }
	}
	return []change{
		{"joins", func(b *api.Board) { *b = largeBoard(api.MaxJoins+1, api.MaxNets) }, api.ErrLarge},
		{"no net", join(0, "", "a", "y"), api.ErrName},
		{"net", join(0, "M", "a", "y"), api.ErrName},
		{"no part", join(0, "m", "", "y"), api.ErrNone},
		{"part", join(0, "m", "aa", "y"), api.ErrNone},
		{"pin", join(0, "m", "a", "yy"), api.ErrNone},
		{"pin of another part", join(0, "m", "a", "p"), api.ErrNone},
		{"control cells have no pin", join(0, "m", "a", ""), api.ErrNone},
		{"part without cells", join(5, "p", "c", "x"), api.ErrNone},
		{"nets not in order", join(5, "n", "a", "z"), api.ErrOrder},
		{"parts not in order", func(b *api.Board) { b.Joins[0], b.Joins[1] = b.Joins[1], b.Joins[0] }, api.ErrOrder},
		{"join twice", join(1, "m", "a", "y"), api.ErrOrder},
		{"pins not in order", join(1, "m", "a", "x"), api.ErrOrder},
		{"pins not in order on the last net", join(5, "o", "b", "p"), api.ErrOrder},
		{"pin on two nets", join(5, "p", "b", "q"), api.ErrTwice},
		{"pin on two nets, others between", join(5, "p", "a", "y"), api.ErrTwice},
		{"nets", func(b *api.Board) { *b = largeBoard(api.MaxNets+1, api.MaxNets+1) }, api.ErrLarge},
	}
}

func pullChanges() []change {
	pulls := func(l ...api.Pull) func(b *api.Board) {
		return func(b *api.Board) { b.Pulls = l }
	}
	return []change{
		{"no net", pulls(api.Pull{}), api.ErrNone},
		{"net", pulls(api.Pull{Net: "m"}, api.Pull{Net: "mm"}), api.ErrNone},
		{"level -1", pulls(api.Pull{Net: "m", Level: -1}), api.ErrArg},
		{"level 2", pulls(api.Pull{Net: "m", Level: 1}, api.Pull{Net: "n", Level: 2}), api.ErrArg},
		{"level most", pulls(api.Pull{Net: "m", Level: math.MaxInt}), api.ErrArg},
		{"twice", pulls(api.Pull{Net: "m"}, api.Pull{Net: "m", Level: 1}), api.ErrOrder},
		{"order", pulls(api.Pull{Net: "m"}, api.Pull{Net: "o"}, api.Pull{Net: "n"}), api.ErrOrder},
	}
}

func TestInvalidBoards(t *testing.T) {
	for _, c := range slices.Concat(partChanges(), cellChanges(), joinChanges(), pullChanges()) {
		b := fullBoard()
		c.do(&b)
		if e := CheckBoard(b); e != c.want {
			t.Errorf("%s: %v, not %v", c.name, e, c.want)
		}
	}
}

// TestBoardErrorsInOrder makes two errors: the one that the document names first is returned.
func TestBoardErrorsInOrder(t *testing.T) {
	for _, c := range []change{
		{"count before the parts", func(b *api.Board) { b.Parts = manyParts(api.MaxParts+1, 0); b.Parts[0].Key = "" }, api.ErrLarge},
		{"key before its order", func(b *api.Board) { b.Parts[1].Key = "" }, api.ErrName},
		{"order before the count of cells", func(b *api.Board) { b.Parts[1].Key = "a"; b.Parts[1].Cells = make([]api.Cell, 201) }, api.ErrOrder},
		{"count before the cells", func(b *api.Board) { b.Parts[1].Cells = make([]api.Cell, 201) }, api.ErrLarge},
		{"cells of a part before the next part", func(b *api.Board) { b.Parts[0].Cells[5].Kind = 9; b.Parts[1].Key = "" }, api.ErrKind},
		{"pins of a part before the next part", func(b *api.Board) { b.Parts[0].Cells[5].Pin = "x"; b.Parts[1].Key = "" }, api.ErrTwice},
		{"first cell", func(b *api.Board) { b.Parts[0].Cells[0].Off = 2; b.Parts[0].Cells[2].Kind = 0 }, api.ErrArg},
		{"kind before pin", func(b *api.Board) { b.Parts[0].Cells[5] = api.Cell{Kind: 7, Control: 8} }, api.ErrKind},
		{"pin before control", func(b *api.Board) { b.Parts[0].Cells[0] = outBy("", 9, 9) }, api.ErrName},
		{"pin of input before control", func(b *api.Board) { b.Parts[0].Cells[5] = api.Cell{Kind: api.CellInput} }, api.ErrName},
		{"control before off", func(b *api.Board) { b.Parts[0].Cells[0] = outBy("x", 9, 9) }, api.ErrNone},
		{"all cells before pins that are there twice", func(b *api.Board) { b.Parts[0].Cells[4].Pin = "x"; b.Parts[0].Cells[5].Off = 1 }, api.ErrForm},
		{"parts before joins", func(b *api.Board) { b.Parts[2].Key = "a"; b.Joins = make([]api.Join, 1001) }, api.ErrOrder},
		{"count of joins before the joins", func(b *api.Board) { b.Joins = make([]api.Join, 1001) }, api.ErrLarge},
		{"net before pin", func(b *api.Board) { b.Joins[0] = api.Join{} }, api.ErrName},
		{"pin before order", func(b *api.Board) { b.Joins[5] = api.Join{Net: "a", Part: "a", Pin: "q"} }, api.ErrNone},
		{"order of all joins before pins that are there twice", func(b *api.Board) { b.Joins[4].Pin = "p"; b.Joins[5].Net = "n" }, api.ErrOrder},
		{"pins that are there twice before the nets", func(b *api.Board) { *b = largeBoard(101, 101); b.Joins[100].Pin = b.Joins[99].Pin }, api.ErrTwice},
		{"nets before pulls", func(b *api.Board) { *b = largeBoard(101, 101); b.Pulls = make([]api.Pull, 1) }, api.ErrLarge},
		{"net of a pull before its level", func(b *api.Board) { b.Pulls[1] = api.Pull{Net: "x", Level: 5} }, api.ErrNone},
		{"level before order", func(b *api.Board) { b.Pulls[1] = api.Pull{Net: "m", Level: 5} }, api.ErrArg},
		{"first pull", func(b *api.Board) { b.Pulls = append(b.Pulls, api.Pull{Net: "m"}, api.Pull{Net: "x"}) }, api.ErrOrder},
	} {
		b := fullBoard()
		c.do(&b)
		if e := CheckBoard(b); e != c.want {
			t.Errorf("%s: %v, not %v", c.name, e, c.want)
		}
	}
}

// TestBoardErrorComesFirst calls all functions with a board that is not valid and other arguments that are not, too.
func TestBoardErrorComesFirst(t *testing.T) {
	for _, c := range slices.Concat(partChanges(), cellChanges(), joinChanges(), pullChanges()) {
		b := fullBoard()
		c.do(&b)
		for name, call := range map[string]func() (api.Errno, bool){
			"Nets":      func() (api.Errno, bool) { r, e := Nets(b); return e, len(r) == 0 },
			"NetOf":     func() (api.Errno, bool) { r, is, e := NetOf(b, "", ""); return e, r == "" && !is },
			"Pins":      func() (api.Errno, bool) { r, e := Pins(b, "m"); return e, len(r) == 0 },
			"Drivers":   func() (api.Errno, bool) { r, e := Drivers(b, "m"); return e, len(r) == 0 },
			"Receivers": func() (api.Errno, bool) { r, e := Receivers(b, ""); return e, len(r) == 0 },
			"Testable":  func() (api.Errno, bool) { r, e := Testable(b); return e, len(r) == 0 },
			"Unjoined":  func() (api.Errno, bool) { r, e := Unjoined(b); return e, len(r) == 0 },
			"CheckBits": func() (api.Errno, bool) { return CheckBits(b, nil), true },
			"Levels":    func() (api.Errno, bool) { r, e := Levels(b, nil); return e, len(r) == 0 },
			"Captured":  func() (api.Errno, bool) { r, e := Captured(b, nil); return e, len(r) == 0 },
			"Clashes":   func() (api.Errno, bool) { r, e := Clashes(b, nil); return e, len(r) == 0 },
			"Quiet":     func() (api.Errno, bool) { r, e := Quiet(b); return e, len(r) == 0 },
			"Drive":     func() (api.Errno, bool) { r, e := Drive(b, nil, "x"); return e, len(r) == 0 },
			"Seen":      func() (api.Errno, bool) { r, e := Seen(b, nil, ""); return e, r == "" },
			"Differ 1":  func() (api.Errno, bool) { return differError(b, api.Board{Parts: make([]api.Component, 41)}) },
			"Differ 2":  func() (api.Errno, bool) { return differError(fullBoard(), b) },
			"Text":      func() (api.Errno, bool) { r, e := Text(b); return e, r == "" },
		} {
			if e, zero := call(); e != c.want || !zero {
				t.Errorf("%s, %s: %v, not %v", c.name, name, e, c.want)
			}
		}
	}
}

func differError(x, y api.Board) (api.Errno, bool) {
	first, second, unlike, e := Differ(x, y)
	return e, len(first)+len(second)+len(unlike) == 0
}
