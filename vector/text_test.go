package vector

import (
	"math/rand/v2"
	"slices"
	"strings"
	"testing"

	"scanchain/api"
)

func allCommands() []api.Command {
	return []api.Command{
		{Kind: api.CommandEndIR, State: api.StateReset},
		{Kind: api.CommandEndIR, State: api.StateIdle},
		{Kind: api.CommandEndDR, State: api.StatePauseDR},
		{Kind: api.CommandEndDR, State: api.StatePauseIR},
		{Kind: api.CommandHeadIR, Bits: "1"},
		{Kind: api.CommandTailIR, Bits: "01"},
		{Kind: api.CommandHeadDR, Bits: "001"},
		{Kind: api.CommandTailDR, Bits: "0001"},
		{Kind: api.CommandHeadIR},
		{Kind: api.CommandTailIR},
		{Kind: api.CommandHeadDR},
		{Kind: api.CommandTailDR},
		{Kind: api.CommandScanIR, Bits: "10"},
		{Kind: api.CommandScanIR, Bits: "10", Want: "01", Mask: "11"},
		{Kind: api.CommandScanDR, Bits: "110"},
		{Kind: api.CommandScanDR, Bits: "110", Want: "011", Mask: "000"},
		{Kind: api.CommandIdle},
		{Kind: api.CommandIdle, Clocks: 120},
		{Kind: api.CommandGo, State: api.StateReset},
		{Kind: api.CommandGo, State: api.StateIdle},
		{Kind: api.CommandGo, State: api.StatePauseDR},
		{Kind: api.CommandGo, State: api.StatePauseIR},
	}
}

const allCommandsText = `endir reset
endir idle
enddr pausedr
enddr pauseir
headir 1
tailir 01
headdr 001
taildr 0001
headir -
tailir -
headdr -
taildr -
scanir 10
scanir 10 01 11
scandr 110
scandr 110 011 000
idle 0
idle 120
go reset
go idle
go pausedr
go pauseir
`

func wantSame(t *testing.T, l []api.Command) {
	t.Helper()
	text, e := Text(l)
	if e != api.OK {
		t.Fatal(e)
	}
	again, number, e := Read(text)
	if e != api.OK || number != 0 || !slices.Equal(again, l) {
		t.Errorf("%.80q: %v %d", text, e, number)
	}
}

func TestText(t *testing.T) {
	if text, e := Text(allCommands()); e != api.OK || text != allCommandsText {
		t.Errorf("%q %v", text, e)
	}
	if l, number, e := Read(allCommandsText); e != api.OK || number != 0 || !slices.Equal(l, allCommands()) {
		t.Error(l, number, e)
	}
	if text, e := Text(nil); e != api.OK || text != "" {
		t.Errorf("%q %v", text, e)
	}
	if l, number, e := Read(""); e != api.OK || number != 0 || len(l) != 0 {
		t.Error(l, number, e)
	}
	wantSame(t, []api.Command{{Kind: api.CommandIdle, Clocks: 19_999}})
	randomCases(300, 12, func(_ *rand.Rand, _ []api.Device, l []api.Command) { wantSame(t, l) })
}

func TestTextSize(t *testing.T) {
	// 99 lines of 2,008 bytes have 198,792.
	l := slices.Repeat([]api.Command{scanned(api.CommandHeadIR, bits(2_000))}, 99)
	l = append(l, scanned(api.CommandTailDR, bits(api.MaxText-198_792-8)))
	text, e := Text(l)
	if e != api.OK || len(text) != api.MaxText {
		t.Fatal(len(text), e)
	}
	wantSame(t, l)
	if l, number, e := Read(strings.Replace(text, "headir", "headir ", 1)); e != api.ErrLarge || number != 0 || len(l) != 0 {
		t.Error(len(l), number, e)
	}
	l[99].Bits += "1"
	if text, e := Text(l); e != api.ErrLarge || text != "" {
		t.Error(len(text), e)
	}
	l[0].Clocks = 1
	if text, e := Text(l); e != api.ErrForm || text != "" {
		t.Error(len(text), e)
	}
	if text, e := Text(slices.Repeat(l[1:2], 1_000)); e != api.ErrLarge || text != "" {
		t.Error(len(text), e)
	}
	for size, want := range map[int]api.Errno{api.MaxText: api.ErrSyntax, api.MaxText + 1: api.ErrLarge} {
		if l, number, e := Read(strings.Repeat("x", size)); e != want || number != 0 || len(l) != 0 {
			t.Error(size, number, e)
		}
	}
}

func TestReadSyntax(t *testing.T) {
	first := "go idle\nidle 1\n"
	for text, want := range map[string]int{
		"\n":                             0,
		"x":                              0,
		"go idle":                        0,
		"go\n":                           0,
		"go \n":                          0,
		" go idle\n":                     0,
		"go  idle\n":                     0,
		"go idle \n":                     0,
		"go\tidle\n":                     0,
		"go idle\r\n":                    0,
		"Go idle\n":                      0,
		"goes idle\n":                    0,
		"go idle idle\n":                 0,
		"go 1\n":                         0,
		"go -\n":                         0,
		"go Idle\n":                      0,
		"go pause\n":                     0,
		"go shiftdr\n":                   0,
		"go exit1ir\n":                   0,
		"endir\n":                        0,
		"endir idle 1\n":                 0,
		"endir 0\n":                      0,
		"endir updateir\n":               0,
		"enddr x\n":                      0,
		"headir\n":                       0,
		"headir \n":                      0,
		"headir 1 1\n":                   0,
		"tailir  1\n":                    0,
		"headdr - -\n":                   0,
		"taildr\n":                       0,
		"scanir\n":                       0,
		"scanir \n":                      0,
		"scanir 1 1\n":                   0,
		"scanir 1 1 \n":                  0,
		"scanir 1  1\n":                  0,
		"scanir 1 1 1 1\n":               0,
		"scandr 10 11\n":                 0,
		"scandr\n":                       0,
		"idle\n":                         0,
		"idle 1 1\n":                     0,
		"idle x\n":                       0,
		"idle -\n":                       0,
		"idle 01\n":                      0,
		"idle +1\n":                      0,
		"idle -0\n":                      0,
		"idle 1.0\n":                     0,
		"idle 1000000000000000\n":        0,
		"idle -1000000000000000\n":       0,
		"1 1\n":                          0,
		"0 1\n":                          0,
		"reset\n":                        0,
		first + "\n":                     2,
		first + "go idle":                2,
		first + "scanir x\ngo nowhere":   3,
		first + "idle -1\nscan 1\nx y":   3,
		first + "headir 1\n\nidle 1\n":   3,
		first + "go idle\ngo idle\n10":   4,
		"scanir x\nidle 99999\nidle x\n": 2,
	} {
		if l, number, e := Read(text); e != api.ErrSyntax || number != want || len(l) != 0 {
			t.Errorf("%q: %v %d %v", text, l, number, e)
		}
	}
}

func TestReadChecksCommands(t *testing.T) {
	for text, want := range map[string]api.Errno{
		"go idle\nheadir x\n":                         api.ErrSyntax,
		"go idle\nheadir --\n":                        api.ErrSyntax,
		"go idle\nheadir 1-\n":                        api.ErrSyntax,
		"go idle\ntaildr 0\t1\n":                      api.ErrSyntax,
		"go idle\ntaildr 0\r\n":                       api.ErrSyntax,
		"go idle\nscanir \x80\x00\n":                  api.ErrSyntax,
		"go idle\nscanir -\n":                         api.ErrSyntax,
		"go idle\nscandr 10 - -\n":                    api.ErrForm,
		"go idle\nscandr 1 - -\n":                     api.ErrSyntax,
		"go idle\nscandr 10 1 11\n":                   api.ErrForm,
		"go idle\nscandr 10 11 1\n":                   api.ErrForm,
		"go idle\nscandr 10 1x 11\n":                  api.ErrSyntax,
		"go idle\nscandr 10 11 y1\n":                  api.ErrSyntax,
		"go idle\nidle -1\n":                          api.ErrArg,
		"go idle\nidle 20001\n":                       api.ErrArg,
		"go idle\nidle 999999999999999\n":             api.ErrArg,
		"go idle\nidle -999999999999999\n":            api.ErrArg,
		"go idle\nidle 20000\n":                       api.ErrLarge,
		"headdr " + bits(2_001) + "\n":                api.ErrLarge,
		"scanir " + bits(2_001) + "\n":                api.ErrLarge,
		strings.Repeat("go reset\n", 1_001):           api.ErrLarge,
		strings.Repeat("go idle\nidle 9999\n", 3):     api.ErrLarge,
		"idle 20000\nidle 20000\nscanir x\n":          api.ErrSyntax,
		"idle -1\nscanir x\n":                         api.ErrArg,
		strings.Repeat("scanir x\n", 1_001):           api.ErrLarge,
		strings.Repeat("go idle\n", 999) + "idle 0\n": api.OK,
	} {
		l, number, e := Read(text)
		if e != want || number != 0 || e != api.OK && len(l) != 0 {
			t.Errorf("%.40q: %d %v, not %v", text, number, e, want)
		}
	}
}
