package board

import (
	"slices"
	"strings"
	"sync"
	"testing"

	"scanchain/api"
)

// withSpare returns a list with an element in the memory behind it.
func withSpare[T any](list []T, spare T) []T {
	return append(slices.Clone(list), spare)[:len(list)]
}

// spareBoard is fullBoard with elements that are not valid in the memory behind each list.
func spareBoard() api.Board {
	b := fullBoard()
	for i := range b.Parts {
		b.Parts[i].Cells = withSpare(b.Parts[i].Cells, api.Cell{Kind: 9})
	}
	b.Parts = withSpare(b.Parts, api.Component{Key: "?"})
	b.Joins = withSpare(b.Joins, api.Join{Net: "?"})
	b.Pulls = withSpare(b.Pulls, api.Pull{Net: "?"})
	return b
}

func TestArgumentsStay(t *testing.T) {
	b := spareBoard()
	bits := withSpare([]string{"110000", "000100", ""}, "?")
	nets := withSpare([]string{"n", "m"}, "?")
	if text, e := Text(b); e != api.OK || text != fullText {
		t.Error(text, e)
	}
	wantList(t, "nets", "m", "n", "o", "p")(Nets(b))
	wantList(t, "testable", "m", "n")(Testable(b))
	wantList(t, "unjoined", api.Pair{Name: "a", Value: "z"})(Unjoined(b))
	wantList(t, "pins", api.Pair{Name: "b", Value: "s"})(Pins(b, "p"))
	wantList(t, "levels", 1, 1, 0, 2)(Levels(b, bits))
	wantList(t, "captured", "111001", "100111", "")(Captured(b, bits))
	wantList[string](t, "clashes")(Clashes(b, bits))
	wantList(t, "quiet", "000000", "001000", "")(Quiet(b))
	wantList(t, "drive", "110000", "000100", "")(Drive(b, nets, "11"))
	Seen(b, bits, "n")
	NetOf(b, "a", "x")
	Drivers(b, "n")
	Receivers(b, "n")
	Differ(b, b)
	spared := b.Parts[:4][3].Key == "?" && b.Joins[:7][6].Net == "?" && b.Pulls[:3][2].Net == "?" && b.Parts[0].Cells[:7][6].Kind == 9 && bits[:4][3] == "?" && nets[:3][2] == "?"
	if !sameBoards(b, fullBoard()) || !slices.Equal(bits, []string{"110000", "000100", ""}) || !slices.Equal(nets, []string{"n", "m"}) || !spared {
		t.Error("changed", b, bits, nets)
	}
}

func TestResultsAreNew(t *testing.T) {
	b := fullBoard()
	nets, _ := Nets(b)
	pins, _ := Pins(b, "n")
	bits := []string{"110000", "000100", ""}
	captured, _ := Captured(b, bits)
	drivers, _ := Drivers(b, "m")
	quiet, _ := Quiet(b)
	clear(nets)
	clear(pins)
	clear(captured)
	clear(drivers)
	clear(quiet)
	if !sameBoards(b, fullBoard()) || bits[0] != "110000" {
		t.Error("changed", b, bits)
	}
	read, _, _ := Read(fullText)
	one := append(read.Parts[0].Cells, in("one"))
	two := append(read.Parts[1].Cells, in("two"))
	if one[6].Pin != "one" || two[6].Pin != "two" {
		t.Error("shared memory")
	}
	clear(read.Parts[0].Cells)
	if again, _, e := Read(fullText); e != api.OK || !sameBoards(again, b) {
		t.Error(again, e)
	}
}

func TestFunctionsRunAtOnce(t *testing.T) {
	b := fullBoard()
	var all sync.WaitGroup
	for range 8 {
		all.Go(func() {
			for range 20 {
				wantList(t, "drive", "110000", "000100", "")(Drive(b, []string{"n", "m"}, "11"))
				wantList(t, "levels", 1, 1, 0, 2)(Levels(b, []string{"110000", "000100", ""}))
				wantList(t, "unjoined", api.Pair{Name: "a", Value: "z"})(Unjoined(b))
				if read, _, e := Read(fullText); e != api.OK || !sameBoards(read, b) {
					t.Error(read, e)
				}
			}
		})
	}
	all.Wait()
}

func TestLargeArgumentsReturn(t *testing.T) {
	const most = 200_000
	long := strings.Repeat("a", most)
	large := largeBoard(api.MaxJoins, api.MaxNets)
	for _, c := range []change{
		{"parts", func(b *api.Board) { b.Parts = make([]api.Component, most) }, api.ErrLarge},
		{"key", func(b *api.Board) { b.Parts[2].Key = long }, api.ErrName},
		{"cells", func(b *api.Board) { b.Parts[2].Cells = make([]api.Cell, most) }, api.ErrLarge},
		{"pin", func(b *api.Board) { b.Parts[0].Cells[0].Pin = long }, api.ErrName},
		{"joins", func(b *api.Board) { b.Joins = make([]api.Join, most) }, api.ErrLarge},
		{"net", func(b *api.Board) { b.Joins[0].Net = long }, api.ErrName},
		{"part", func(b *api.Board) { b.Joins[0].Part = long }, api.ErrNone},
		{"pin of a join", func(b *api.Board) { b.Joins[0].Pin = long }, api.ErrNone},
		{"pulls", func(b *api.Board) { b.Pulls = slices.Repeat([]api.Pull{{Net: "m"}}, most) }, api.ErrOrder},
		{"net of a pull", func(b *api.Board) { b.Pulls[0].Net = long }, api.ErrNone},
	} {
		b := fullBoard()
		c.do(&b)
		if e := CheckBoard(b); e != c.want {
			t.Errorf("%s: %v, not %v", c.name, e, c.want)
		}
	}
	if e := CheckBits(large, make([]string, most)); e != api.ErrForm {
		t.Error(e)
	}
	if bits, e := Drive(large, slices.Repeat([]string{"k000"}, most), strings.Repeat("0", most)); e != api.ErrTwice || len(bits) != 0 {
		t.Error(e)
	}
	if _, e := Pins(large, long); e != api.ErrNone {
		t.Error(e)
	}
	for _, line := range []string{"\n", "part a\n", "join n a x\n", "pull n 0\n", "x y\n", "control\n"} {
		if b, _, e := Read(strings.Repeat(line, api.MaxText/len(line))); e == api.OK || !isZero(b) {
			t.Error(line, e)
		}
	}
}
