package board

import (
	"math/rand/v2"
	"slices"
	"strings"
	"testing"

	"scanchain/api"
)

const fullText = `part a
out x 1 0
control
in x
internal
out y 1 1
in z
part b
in p
out q
control
out r 2 1
in r
in s
part c
join m a y
join m b r
join n a x
join n b p
join o b q
join p b s
pull m 1
pull n 0
`

func sameBoards(x, y api.Board) bool {
	return slices.EqualFunc(x.Parts, y.Parts, func(a, b api.Component) bool { return a.Key == b.Key && slices.Equal(a.Cells, b.Cells) }) &&
		slices.Equal(x.Joins, y.Joins) && slices.Equal(x.Pulls, y.Pulls)
}

func isZero(b api.Board) bool {
	return len(b.Parts)+len(b.Joins)+len(b.Pulls) == 0
}

func wantSame(t *testing.T, b api.Board) {
	t.Helper()
	text, e := Text(b)
	if e != api.OK {
		t.Fatal(e)
	}
	if again, number, e := Read(text); e != api.OK || number != 0 || !sameBoards(again, b) {
		t.Error(again, number, e)
	}
}

func TestText(t *testing.T) {
	if text, e := Text(fullBoard()); e != api.OK || text != fullText {
		t.Errorf("%q %v", text, e)
	}
	if b, number, e := Read(fullText); e != api.OK || number != 0 || !sameBoards(b, fullBoard()) {
		t.Error(b, number, e)
	}
	if text, e := Text(api.Board{}); e != api.OK || text != "" {
		t.Error(text, e)
	}
	if b, number, e := Read(""); e != api.OK || number != 0 || !isZero(b) {
		t.Error(b, number, e)
	}
}

func TestReadReadsWhatTextWrites(t *testing.T) {
	wantSame(t, largeBoard(api.MaxJoins, api.MaxNets))
	wantSame(t, api.Board{Parts: []api.Component{{Key: "control", Cells: []api.Cell{in("in"), out("in"), out("part"), control()}}, {Key: "part"}}, Joins: []api.Join{{Net: "join", Part: "control", Pin: "in"}}})
	randomBoards(t, 500, func(_ *rand.Rand, b api.Board) { wantSame(t, b) })
}

// sizedBoard has a text of as many bytes as are asked for, from 150,000 on.
func sizedBoard(size int) api.Board {
	b := api.Board{Parts: manyParts(api.MaxParts, 0)}
	text, _ := Text(b)
	left := size - len(text)
	for p := range b.Parts {
		for c := range api.MaxCells {
			// "in ", the pin and a line feed; the last one is as long as is left.
			long := min(left, 30)
			if left-long < 30 && left > long {
				long = left / 2
			}
			if left == 0 {
				return b
			}
			pin := numbered(c) + strings.Repeat("x", long-len("in \n")-len(numbered(c)))
			b.Parts[p].Cells = append(b.Parts[p].Cells, in(pin))
			left -= long
		}
	}
	return b
}

func TestTextSize(t *testing.T) {
	b := sizedBoard(api.MaxText)
	text, e := Text(b)
	if e != api.OK || len(text) != api.MaxText {
		t.Fatal(len(text), e)
	}
	wantSame(t, b)
	b = sizedBoard(api.MaxText + 1)
	if e := CheckBoard(b); e != api.OK {
		t.Fatal(e)
	}
	if text, e := Text(b); e != api.ErrLarge || text != "" {
		t.Error(len(text), e)
	}
	if b, number, e := Read(text + "\n"); e != api.ErrLarge || number != 0 || !isZero(b) {
		t.Error(number, e)
	}
	if b, number, e := Read(strings.Repeat("x", api.MaxText)); e != api.ErrSyntax || number != 0 || !isZero(b) {
		t.Error(number, e)
	}
}

func TestReadSyntax(t *testing.T) {
	part := "part a\n"
	joined := part + "out x\njoin n a x\n"
	pulled := joined + "pull n 0\n"
	for _, c := range []struct {
		text   string
		number int
	}{
		{"\n", 0},
		{"x", 0},
		{"x\n", 0},
		{"part a", 0},
		{"part\n", 0},
		{"part \n", 0},
		{"part a b\n", 0},
		{"part  a\n", 0},
		{" part a\n", 0},
		{"part a \n", 0},
		{"Part a\n", 0},
		{"part\ta\n", 0},
		{"in x\n", 0},
		{"out x\n", 0},
		{"out x 1 0\n", 0},
		{"control\n", 0},
		{"internal\n", 0},
		{part + "\n", 1},
		{part + "in\n", 1},
		{part + "in x 1\n", 1},
		{part + "in x 1 0\n", 1},
		{part + "out\n", 1},
		{part + "out x 1\n", 1},
		{part + "out x 1 0 0\n", 1},
		{part + "out x 1 \n", 1},
		{part + "out x a 0\n", 1},
		{part + "out x 1 a\n", 1},
		{part + "out x 01 0\n", 1},
		{part + "out x 1 00\n", 1},
		{part + "out x +1 0\n", 1},
		{part + "out x 1 -0\n", 1},
		{part + "out x -1 0\n", 1},
		{part + "out x -1 1\n", 1},
		{part + "out x 1000000000000000 0\n", 1},
		{part + "out x 1 1000000000000000\n", 1},
		{part + "control x\n", 1},
		{part + "internal x\n", 1},
		{part + "input x\n", 1},
		{part + "in x", 1},
		{part + "in x\r\njoin n a x\nx\n", 3},
		{part + "out x\njoin n a\n", 2},
		{part + "out x\njoin n a x x\n", 2},
		{part + "out x\njoin  a x\n", 2},
		{joined + "part b\n", 3},
		{joined + "in y\n", 3},
		{joined + "out y\n", 3},
		{joined + "control\n", 3},
		{joined + "internal\n", 3},
		{joined + "pull n\n", 3},
		{joined + "pull n 0 0\n", 3},
		{joined + "pull n x\n", 3},
		{joined + "pull n 00\n", 3},
		{joined + "pull n -0\n", 3},
		{joined + "pull n 1000000000000000\n", 3},
		{joined + "pull n 0", 3},
		{pulled + "part b\n", 4},
		{pulled + "in y\n", 4},
		{pulled + "control\n", 4},
		{pulled + "join n a y\n", 4},
		{pulled + "pull n 0\nx\n", 5},
		{"pull n 0\npart a\n", 1},
		{"pull n 0\njoin n a x\n", 1},
		{"join n a x\npart a\n", 1},
		// The syntax of a later line comes before what CheckBoard says of an earlier one.
		{"part A\npart A\nin\n", 2},
	} {
		if b, number, e := Read(c.text); e != api.ErrSyntax || number != c.number || !isZero(b) {
			t.Errorf("%q: %v %d %v", c.text, b, number, e)
		}
	}
}

func TestReadChecksBoard(t *testing.T) {
	part := "part a\n"
	joined := part + "out x\njoin n a x\n"
	for text, want := range map[string]api.Errno{
		strings.Repeat("part a\n", 41):               api.ErrLarge,
		"part A\n":                                   api.ErrName,
		part + part:                                  api.ErrOrder,
		part + strings.Repeat("control\n", 201):      api.ErrLarge,
		part + "in X\n":                              api.ErrName,
		part + "in x\r\n":                            api.ErrName,
		part + "in x\nin x\n":                        api.ErrTwice,
		part + "out x -2 0\n":                        api.ErrNone,
		part + "out x 0 0\n":                         api.ErrNone,
		part + "out x 999999999999999 0\n":           api.ErrNone,
		part + "out x 1 2\ncontrol\n":                api.ErrArg,
		part + "out x 1 -999999999999999\ncontrol\n": api.ErrArg,
		"join n a x\n":                               api.ErrNone,
		joined + "join n a x\n":                      api.ErrOrder,
		"pull n 0\n":                                 api.ErrNone,
		joined + "pull n 2\n":                        api.ErrArg,
		joined + "pull n -1\n":                       api.ErrArg,
		joined + "pull n 0\npull n 1\n":              api.ErrOrder,
	} {
		if b, number, e := Read(text); e != want || number != 0 || !isZero(b) {
			t.Errorf("%q: %v %d %v", text, b, number, e)
		}
	}
}
