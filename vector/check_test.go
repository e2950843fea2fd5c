package vector

import (
	"math"
	"slices"
	"strings"
	"testing"

	"scanchain/api"
	"scanchain/tap"
)

func bits(long int) string {
	return strings.Repeat("01", long)[:long]
}

func wantCheck(t *testing.T, name string, want api.Errno, l ...api.Command) {
	t.Helper()
	if e := CheckCommands(l); e != want {
		t.Errorf("%s: %v, not %v", name, e, want)
	}
}

func TestCheckCommands(t *testing.T) {
	wantCheck(t, "no commands", api.OK)
	for state := -1; state <= 17; state++ {
		want := api.ErrArg
		if slices.Contains(stableStates(), state) {
			want = api.OK
		}
		for _, kind := range []int{api.CommandEndIR, api.CommandEndDR, api.CommandGo} {
			wantCheck(t, "state", want, api.Command{Kind: kind, State: state})
		}
	}
	for _, kind := range []int{api.CommandHeadIR, api.CommandTailIR, api.CommandHeadDR, api.CommandTailDR} {
		wantCheck(t, "none", api.OK, scanned(kind, ""))
		wantCheck(t, "some", api.OK, scanned(kind, "0110"))
		wantCheck(t, "most", api.OK, scanned(kind, bits(2_000)))
	}
	for _, kind := range []int{api.CommandScanIR, api.CommandScanDR} {
		wantCheck(t, "one", api.OK, scanned(kind, "1"))
		wantCheck(t, "most", api.OK, scanned(kind, bits(2_000)))
		wantCheck(t, "wanted", api.OK, api.Command{Kind: kind, Bits: "01", Want: "11", Mask: "00"})
		wantCheck(t, "most wanted", api.OK, api.Command{Kind: kind, Bits: bits(2_000), Want: bits(2_000), Mask: bits(2_000)})
	}
	for _, clocks := range []int{0, 1, 19_999} {
		wantCheck(t, "clocks", api.OK, api.Command{Kind: api.CommandIdle, Clocks: clocks})
	}
}

func TestCheckCommandsErrors(t *testing.T) {
	for _, kind := range []int{math.MinInt, -1, 0, 11, 12, math.MaxInt} {
		wantCheck(t, "kind", api.ErrKind, api.Command{Kind: kind})
		wantCheck(t, "kind before what is not used", api.ErrKind, api.Command{Kind: kind, State: 99, Clocks: -1, Bits: "x", Want: "1", Mask: "y"})
	}
	for _, kind := range []int{api.CommandEndIR, api.CommandEndDR, api.CommandGo} {
		for _, state := range []int{math.MinInt, -1, 2, 12, 14, 15, 16, math.MaxInt} {
			wantCheck(t, "state", api.ErrArg, api.Command{Kind: kind, State: state, Bits: "1"})
		}
	}
	for _, clocks := range []int{math.MinInt, -1, 20_001, math.MaxInt} {
		wantCheck(t, "clocks", api.ErrArg, api.Command{Kind: api.CommandIdle, Clocks: clocks, Bits: "1"})
	}
	for _, kind := range []int{api.CommandHeadIR, api.CommandTailIR, api.CommandHeadDR, api.CommandTailDR} {
		wantCheck(t, "no bit", api.ErrSyntax, api.Command{Kind: kind, Bits: "012", State: 1})
		wantCheck(t, "no bit before many", api.ErrSyntax, scanned(kind, bits(2_000)+"-"))
		wantCheck(t, "many", api.ErrLarge, api.Command{Kind: kind, Bits: bits(2_001), State: 1})
	}
	for _, c := range []struct {
		name             string
		bits, want, mask string
		e                api.Errno
	}{
		{"none", "", "", "", api.ErrNone},
		{"none, and something wanted", "", "x", "1", api.ErrNone},
		{"no bit", "0x", "", "", api.ErrSyntax},
		{"no bit before a wrong length", "x", "11", "", api.ErrSyntax},
		{"no bit before many", bits(2_000) + " ", "", "", api.ErrSyntax},
		{"many", bits(2_001), "", "", api.ErrLarge},
		{"many before a wrong length", bits(2_001), "x", "", api.ErrLarge},
		{"wanted: short", "01", "x", "11", api.ErrForm},
		{"wanted: long", "01", "111", "11", api.ErrForm},
		{"mask: none", "01", "11", "", api.ErrForm},
		{"mask: short", "01", "11", "x", api.ErrForm},
		{"mask: long", "01", "x1", "111", api.ErrForm},
		{"wanted: no bit", "01", "1x", "11", api.ErrSyntax},
		{"mask: no bit", "01", "11", "1-", api.ErrSyntax},
		{"both: no bits", "01", "zz", "zz", api.ErrSyntax},
		{"mask alone: no bit", "01", "", "x", api.ErrSyntax},
		{"mask alone", "01", "", "11", api.ErrForm},
		{"mask alone: another length", "01", "", "1", api.ErrForm},
	} {
		for _, kind := range []int{api.CommandScanIR, api.CommandScanDR} {
			wantCheck(t, c.name, c.e, api.Command{Kind: kind, Bits: c.bits, Want: c.want, Mask: c.mask})
		}
	}
	for _, bad := range []string{"2", "/", ":", " ", "\x00", "\x80", "०", "-", "+1"} {
		wantCheck(t, bad, api.ErrSyntax, scanned(api.CommandHeadIR, bad))
		wantCheck(t, bad, api.ErrSyntax, scanned(api.CommandScanDR, bad))
	}
}

func TestCheckCommandsUnusedFields(t *testing.T) {
	for kind := api.CommandEndIR; kind <= api.CommandGo; kind++ {
		good := api.Command{Kind: kind}
		isScan := kind == api.CommandScanIR || kind == api.CommandScanDR
		isEdge := api.CommandHeadIR <= kind && kind <= api.CommandTailDR
		isIdle := kind == api.CommandIdle
		if isScan {
			good.Bits = "1"
		}
		wantCheck(t, "good", api.OK, good)
		for _, field := range []struct {
			name   string
			isUsed bool
			set    func(c *api.Command)
		}{
			{"state", !isScan && !isEdge && !isIdle, func(c *api.Command) { c.State = 1 }},
			{"clocks", isIdle, func(c *api.Command) { c.Clocks = 1 }},
			{"bits", isScan || isEdge, func(c *api.Command) { c.Bits = "1" }},
			{"want and mask", isScan, func(c *api.Command) { c.Want, c.Mask = "0", "1" }},
			{"mask", false, func(c *api.Command) { c.Mask = "0" }},
			{"negative state", false, func(c *api.Command) { c.State = -1 }},
		} {
			c := good
			field.set(&c)
			want := api.ErrForm
			if field.isUsed {
				want = api.OK
			} else if field.name == "negative state" && !isScan && !isEdge && !isIdle {
				want = api.ErrArg
			}
			wantCheck(t, field.name, want, c)
		}
	}
}

func TestCheckCommandsOrder(t *testing.T) {
	bad := api.Command{Kind: api.CommandGo, State: 2}
	worse := scanned(api.CommandScanIR, "")
	long := api.Command{Kind: api.CommandIdle, Clocks: 20_000}
	many := make([]api.Command, 1_001)
	wantCheck(t, "the first one", api.ErrArg, bad, worse)
	wantCheck(t, "the first one", api.ErrNone, worse, bad)
	wantCheck(t, "clocks at last", api.ErrNone, long, long, worse)
	wantCheck(t, "many before all", api.ErrLarge, many...)
	wantCheck(t, "not too many", api.ErrKind, many[:1_000]...)
}

func TestCheckCommandsSize(t *testing.T) {
	l := slices.Repeat([]api.Command{{Kind: api.CommandGo}}, 1_000)
	wantCheck(t, "most", api.OK, l...)
	wantCheck(t, "one more", api.ErrLarge, append(l, api.Command{Kind: api.CommandGo})...)
}

func TestCheckCommandsClocks(t *testing.T) {
	idle := func(clocks int) api.Command { return api.Command{Kind: api.CommandIdle, Clocks: clocks} }
	// From StateReset there is one clock to StateIdle.
	wantCheck(t, "one idle command", api.OK, idle(19_999))
	wantCheck(t, "its way counts", api.ErrLarge, idle(20_000))
	wantCheck(t, "the sum", api.OK, idle(10_000), idle(9_999))
	wantCheck(t, "the sum", api.ErrLarge, idle(10_000), idle(10_000))
	// 5 clocks lead to StateShiftIR, 2 to StateIdle; then it is 4 and 2.
	scan := scanned(api.CommandScanIR, bits(2_000))
	wantCheck(t, "scans", api.OK, append(slices.Repeat([]api.Command{scan}, 9), idle(20_000-9*2_006-1))...)
	wantCheck(t, "scans", api.ErrLarge, append(slices.Repeat([]api.Command{scan}, 9), idle(20_000-9*2_006))...)
	around := []api.Command{scanned(api.CommandHeadDR, bits(2_000)), scanned(api.CommandTailDR, bits(2_000)), scanned(api.CommandScanDR, bits(2_000))}
	wantCheck(t, "heads and tails", api.OK, slices.Concat(around, around, around, []api.Command{idle(20_000 - 3*6_005 - 1)})...)
	wantCheck(t, "heads and tails", api.ErrLarge, slices.Concat(around, around, around, []api.Command{idle(20_000 - 3*6_005)})...)
	wantCheck(t, "ways alone", api.OK, slices.Repeat([]api.Command{{Kind: api.CommandGo, State: api.StatePauseDR}, {Kind: api.CommandGo, State: api.StatePauseIR}}, 500)...)
	wantCheck(t, "most", api.ErrLarge, slices.Repeat([]api.Command{idle(20_000)}, 1_000)...)
	wantCheck(t, "most scans", api.ErrLarge, append(around[:2:2], slices.Repeat(around[2:], 998)...)...)
}

// withCommands has all functions with commands: what they return but for the error, whether this is zero, and the error.
var withCommands = map[string]func(l []api.Command) (bool, api.Errno){
	"clocks": func(l []api.Command) (bool, api.Errno) {
		n, e := Clocks(l)
		return n == 0, e
	},
	"signals": func(l []api.Command) (bool, api.Errno) {
		tms, tdi, tdo, e := Signals(l)
		return tms == "" && tdi == "" && tdo == "", e
	},
	"states": func(l []api.Command) (bool, api.Errno) {
		s, e := States(l)
		return len(s) == 0, e
	},
	"bits": func(l []api.Command) (bool, api.Errno) {
		i, d, e := Bits(l)
		return i == 0 && d == 0, e
	},
	"run": func(l []api.Command) (bool, api.Errno) {
		r, e := Run(twoDevices(), l)
		return len(r) == 0, e
	},
	"failed": func(l []api.Command) (bool, api.Errno) {
		f, n, e := Failed(twoDevices(), l)
		return len(f) == 0 && len(n) == 0, e
	},
	"learned": func(l []api.Command) (bool, api.Errno) {
		x, e := Learned(twoDevices(), l)
		return len(x) == 0, e
	},
	"padded": func(l []api.Command) (bool, api.Errno) {
		x, e := Padded(twoDevices(), "none", l)
		return len(x) == 0, e
	},
	"without": func(l []api.Command) (bool, api.Errno) {
		x, e := Without(l)
		return len(x) == 0, e
	},
	"same: the first one": func(l []api.Command) (bool, api.Errno) {
		is, e := Same(l, []api.Command{{Kind: 99}})
		return !is, e
	},
	"same: the second one": func(l []api.Command) (bool, api.Errno) {
		is, e := Same(nil, l)
		return !is, e
	},
	"text": func(l []api.Command) (bool, api.Errno) {
		s, e := Text(l)
		return s == "", e
	},
}

func TestFunctionsCheckCommands(t *testing.T) {
	scan := scanned(api.CommandScanDR, "1")
	for name, call := range withCommands {
		for _, c := range []struct {
			want api.Errno
			l    []api.Command
		}{
			{api.ErrKind, []api.Command{scan, {}}},
			{api.ErrArg, []api.Command{scan, {Kind: api.CommandGo, State: 2}}},
			{api.ErrNone, []api.Command{scan, {Kind: api.CommandScanIR}, {}}},
			{api.ErrSyntax, []api.Command{scan, scanned(api.CommandTailIR, "x")}},
			{api.ErrForm, []api.Command{{Kind: api.CommandIdle, Bits: "1"}}},
			{api.ErrLarge, []api.Command{scan, {Kind: api.CommandIdle, Clocks: 20_000}}},
			{api.ErrLarge, make([]api.Command, 1_001)},
		} {
			if isZero, e := call(c.l); e != c.want || !isZero {
				t.Errorf("%s: %t %v, not %v", name, isZero, e, c.want)
			}
		}
	}
}

// withDevices has all functions with devices, as withCommands has those with commands.
var withDevices = map[string]func(d []api.Device, l []api.Command) (bool, api.Errno){
	"run": func(d []api.Device, l []api.Command) (bool, api.Errno) {
		r, e := Run(d, l)
		return len(r) == 0, e
	},
	"failed": func(d []api.Device, l []api.Command) (bool, api.Errno) {
		f, n, e := Failed(d, l)
		return len(f) == 0 && len(n) == 0, e
	},
	"learned": func(d []api.Device, l []api.Command) (bool, api.Errno) {
		x, e := Learned(d, l)
		return len(x) == 0, e
	},
	"padded": func(d []api.Device, l []api.Command) (bool, api.Errno) {
		x, e := Padded(d, "none", l)
		return len(x) == 0, e
	},
}

func TestFunctionsCheckDevicesFirst(t *testing.T) {
	commands := [][]api.Command{{scanned(api.CommandScanDR, "1")}, {{}}, make([]api.Command, 1_001), nil}
	for _, d := range [][]api.Device{nil, make([]api.Device, 21), {{Name: "U", Long: 2}}, {{Name: "u", Long: 1}}, {{Name: "u", Long: 2, Id: 2}}, {{Name: "u", Long: 2}, {Name: "u", Long: 2}}} {
		want := tap.CheckDevices(d)
		if want == api.OK {
			t.Fatal(d)
		}
		for name, call := range withDevices {
			for _, l := range commands {
				if isZero, e := call(d, l); e != want || !isZero {
					t.Errorf("%s: %t %v, not %v", name, isZero, e, want)
				}
			}
		}
	}
}
