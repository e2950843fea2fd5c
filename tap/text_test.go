package tap

import (
	"math/rand/v2"
	"slices"
	"strings"
	"testing"

	"scanchain/api"
)

const twoDevicesText = `device u1 3 5
register data 2
register more 4
instr 010 data
instr 110 more
instr 001 idcode
instr 100 bypass
instr 000 data
device u2 2 0
register data 3
instr 10 data
`

func sameDevices(a, b []api.Device) bool {
	return slices.EqualFunc(a, b, func(x, y api.Device) bool {
		return x.Name == y.Name && x.Long == y.Long && x.Id == y.Id && slices.Equal(x.Registers, y.Registers) && slices.Equal(x.Instrs, y.Instrs)
	})
}

func TestText(t *testing.T) {
	if text, e := Text(twoDevices()); e != api.OK || text != twoDevicesText {
		t.Errorf("%q %v", text, e)
	}
	if d, number, e := Read(twoDevicesText); e != api.OK || number != 0 || !sameDevices(d, twoDevices()) {
		t.Error(d, number, e)
	}
}

func TestReadReadsWhatTextWrites(t *testing.T) {
	r := rand.New(rand.NewPCG(7, 8))
	lists := [][]api.Device{largestDevices(), manyDevices(20), {{Name: "device", Long: 2}, {Name: "instr", Long: 2}}}
	for range 100 {
		lists = append(lists, randomDevices(r))
	}
	for _, d := range lists {
		text, e := Text(d)
		if e != api.OK {
			t.Fatal(e)
		}
		if again, number, e := Read(text); e != api.OK || number != 0 || !sameDevices(again, d) {
			t.Error(again, number, e)
		}
	}
}

func TestReadSyntax(t *testing.T) {
	first := "device u 2 0\n"
	for _, c := range []struct {
		text   string
		number int
	}{
		{"\n", 0},
		{"device u 2 0", 0},
		{"x", 0},
		{"device u 2\n", 0},
		{"device u 2 0 0\n", 0},
		{"device u  2 0\n", 0},
		{"device  2 0\n", 0},
		{" device u 2 0\n", 0},
		{"device u 2 0 \n", 0},
		{"device u 2 0\r\n", 0},
		{"device u\t2 0\n", 0},
		{"Device u 2 0\n", 0},
		{"device u x 0\n", 0},
		{"device u 02 0\n", 0},
		{"device u +2 0\n", 0},
		{"device u 2 -0\n", 0},
		{"device u 2 00\n", 0},
		{"device u 2 0x1\n", 0},
		{"device u 2 1000000000000000\n", 0},
		{"device u 1000000000000000 1\n", 0},
		{"register a 1\n", 0},
		{"instr 00 bypass\n", 0},
		{first + "register a\n", 1},
		{first + "register a 1 1\n", 1},
		{first + "register a x\n", 1},
		{first + "register a 01\n", 1},
		{first + "register  1\n", 1},
		{first + "instr 00\n", 1},
		{first + "instr 00 bypass x\n", 1},
		{first + "instr  bypass\n", 1},
		{first + "instr 00 \n", 1},
		{first + "\n", 1},
		{first + "more\n", 1},
		{first + "instr 00 bypass\nregister a 1\n", 2},
		{first + "instr 00 bypass\ndevice v 2 0\nregister a 1\ninstr 00 a\nregister b 1\n", 5},
		{first + "register a 1\ninstr 00 a", 2},
		// The syntax of a later line comes before what CheckDevices says of an earlier one.
		{"device U 1 2\ninstr 11 none\nx\n", 2},
	} {
		if d, number, e := Read(c.text); e != api.ErrSyntax || number != c.number || len(d) != 0 {
			t.Errorf("%q: %v %d %v", c.text, d, number, e)
		}
	}
}

func TestReadChecksDevices(t *testing.T) {
	first := "device u 2 0\n"
	for text, want := range map[string]api.Errno{
		"":                                           api.ErrNone,
		strings.Repeat("device u 2 0\n", 21):         api.ErrLarge,
		"device U 2 0\n":                             api.ErrName,
		first + first:                                api.ErrTwice,
		"device u 1 0\n":                             api.ErrArg,
		"device u -2 0\n":                            api.ErrArg,
		"device u 2 -1\n":                            api.ErrArg,
		"device u 2 999999999999999\n":               api.ErrArg,
		"device u 2 4\n":                             api.ErrForm,
		first + "register bypass 1\n":                api.ErrTwice,
		first + "register a 0\n":                     api.ErrArg,
		first + "register a\t 1\n":                   api.ErrName,
		first + "instr 000 bypass\n":                 api.ErrForm,
		first + "instr 0x bypass\n":                  api.ErrSyntax,
		first + "instr 11 bypass\n":                  api.ErrRule,
		first + "instr 00 idcode\n":                  api.ErrNone,
		first + "instr 00 bypass\ninstr 00 bypass\n": api.ErrTwice,
	} {
		if d, number, e := Read(text); e != want || number != 0 || len(d) != 0 {
			t.Errorf("%q: %v %d %v", text, d, number, e)
		}
	}
}

func TestReadSize(t *testing.T) {
	for size, want := range map[int]api.Errno{api.MaxText: api.ErrSyntax, api.MaxText + 1: api.ErrLarge} {
		if d, number, e := Read(strings.Repeat("x", size)); e != want || number != 0 || len(d) != 0 {
			t.Error(size, number, e)
		}
	}
}
