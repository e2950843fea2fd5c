package vector

import (
	"math/rand/v2"
	"slices"
	"testing"

	"scanchain/api"
	"scanchain/tap"
)

func fourDevices() []api.Device {
	return []api.Device{{Name: "a", Long: 2}, {Name: "b", Long: 3, Id: 7}, {Name: "c", Long: 4}, {Name: "d", Long: 2}}
}

func TestPadded(t *testing.T) {
	l := program(t, "headir 10", "scanir 001", "tailir -", "headir -", "headdr 11", "taildr 1", "enddr pausedr", "tailir 01", "scandr 1 0 1", "idle 1", "go reset", "endir reset")
	for device, want := range map[string][]api.Command{
		"a": program(t, "headir 111111111", "tailir -", "headdr 000", "taildr -",
			"headir 11111111110", "scanir 001", "tailir -", "headir 111111111", "headdr 00011", "taildr 1", "enddr pausedr", "tailir 01", "scandr 1 0 1", "idle 1", "go reset", "endir reset"),
		"b": program(t, "headir 111111", "tailir 11", "headdr 00", "taildr 0",
			"headir 11111110", "scanir 001", "tailir 11", "headir 111111", "headdr 0011", "taildr 10", "enddr pausedr", "tailir 0111", "scandr 1 0 1", "idle 1", "go reset", "endir reset"),
		"d": program(t, "headir -", "tailir 111111111", "headdr -", "taildr 000",
			"headir 10", "scanir 001", "tailir 111111111", "headir -", "headdr 11", "taildr 1000", "enddr pausedr", "tailir 01111111111", "scandr 1 0 1", "idle 1", "go reset", "endir reset"),
	} {
		wantList(t, device, want...)(Padded(fourDevices(), device, l))
	}
	wantList(t, "no commands", program(t, "headir 111111", "tailir 11", "headdr 00", "taildr 0")...)(Padded(fourDevices(), "b", nil))
	wantList(t, "a device alone", program(t, "headir -", "tailir -", "headdr -", "taildr -", "tailir 1", "scandr 0")...)(Padded(fourDevices()[:1], "a", program(t, "tailir 1", "scandr 0")))
}

func TestPaddedErrors(t *testing.T) {
	for _, device := range []string{"", "e", "A", "a ", "aa"} {
		if l, e := Padded(fourDevices(), device, nil); e != api.ErrNone || len(l) != 0 {
			t.Errorf("%q: %v %v", device, l, e)
		}
		if l, e := Padded(fourDevices(), device, []api.Command{scanned(api.CommandScanIR, "x")}); e != api.ErrSyntax || len(l) != 0 {
			t.Errorf("%q: %v %v", device, l, e)
		}
		if l, e := Padded(nil, device, []api.Command{{}}); e != api.ErrNone || len(l) != 0 {
			t.Errorf("%q: %v %v", device, l, e)
		}
	}
}

func TestPaddedSize(t *testing.T) {
	idle := func(clocks int) []api.Command { return []api.Command{{Kind: api.CommandIdle, Clocks: clocks}} }
	for _, c := range []struct {
		name string
		l    []api.Command
		want api.Errno
	}{
		{"most commands", slices.Repeat(program(t, "go reset"), 996), api.OK},
		{"more commands", slices.Repeat(program(t, "go reset"), 997), api.ErrLarge},
		{"most bits of HeadIR", program(t, "headir "+bits(2_000-6)), api.OK},
		{"more bits of HeadIR", program(t, "headir "+bits(2_000-5)), api.ErrLarge},
		{"most bits of TailIR", program(t, "tailir "+bits(2_000-2)), api.OK},
		{"more bits of TailIR", program(t, "tailir "+bits(2_000-1)), api.ErrLarge},
		{"most bits of HeadDR", program(t, "headdr "+bits(2_000-2)), api.OK},
		{"more bits of HeadDR", program(t, "headdr "+bits(2_000-1)), api.ErrLarge},
		{"most bits of TailDR", program(t, "taildr "+bits(2_000-1)), api.OK},
		{"more bits of TailDR", program(t, "taildr "+bits(2_000)), api.ErrLarge},
		// 5 clocks lead to the bits of an instruction, 4 to those of data, 2 from them to StateIdle.
		{"most clocks", append(program(t, "scanir 1"), idle(20_000-8-8)...), api.OK},
		{"more clocks", append(program(t, "scanir 1"), idle(20_000-8-8+1)...), api.ErrLarge},
		{"most clocks of data", append(program(t, "scandr 1"), idle(20_000-7-3)...), api.OK},
		{"more clocks of data", append(program(t, "scandr 1"), idle(20_000-7-3+1)...), api.ErrLarge},
	} {
		l, e := Padded(fourDevices(), "b", c.l)
		if e != c.want || (e == api.OK) != (len(l) == len(c.l)+4) || e != api.OK && len(l) != 0 {
			t.Errorf("%s: %d commands %v, not %v", c.name, len(l), e, c.want)
		}
	}
}

// selectedLong returns how many bits the data register has that a device alone selects after a program.
func selectedLong(t *testing.T, d api.Device, l []api.Command) int {
	t.Helper()
	c, e := tap.New([]api.Device{d})
	if e != api.OK {
		t.Fatal(e)
	}
	p := played(l)
	for i := range len(p.tms) {
		c.Clock(int(p.tms[i]-'0'), int(p.tdi[i]-'0'))
	}
	code, _ := c.Instruction(d.Name)
	// A reset is done at the first clock in its state.
	if code == "" || c.State() == api.StateReset {
		if d.Id != 0 {
			return 32
		}
		return 1
	}
	register, _ := tap.Selected(d, code)
	return register.Long
}

// fittingProgram returns a program for a device alone that begins with a scan of an instruction, and shifts in each scan as many bits as the register has. Scans end in StateIdle, or in one of some states.
func fittingProgram(t *testing.T, r *rand.Rand, d api.Device, ends []int) []api.Command {
	var l []api.Command
	for i := range 8 {
		scan, head, tail, end, long := api.CommandScanIR, api.CommandHeadIR, api.CommandTailIR, api.CommandEndIR, d.Long
		if i > 0 && r.IntN(2) == 0 {
			scan, head, tail, end, long = api.CommandScanDR, api.CommandHeadDR, api.CommandTailDR, api.CommandEndDR, selectedLong(t, d, l)
		}
		first := r.IntN(long)
		last := r.IntN(long - first)
		l = append(l, scanned(head, randomBits(r, first)), scanned(tail, randomBits(r, last)))
		l = append(l, api.Command{Kind: end, State: ends[r.IntN(len(ends))]})
		l = append(l, scanned(scan, randomBits(r, long-first-last)))
		if r.IntN(3) == 0 {
			l = append(l, api.Command{Kind: api.CommandIdle, Clocks: r.IntN(3)})
		}
	}
	return l
}

func wantSameOutputs(t *testing.T, d []api.Device, at int, l []api.Command) {
	t.Helper()
	want, e := Run(d[at:at+1], l)
	if e != api.OK {
		t.Fatal(e)
	}
	padded, e := Padded(d, d[at].Name, l)
	if e != api.OK {
		t.Fatal(e)
	}
	wantList(t, d[at].Name, append(make([]string, 4), want...)...)(Run(d, padded))
}

func TestPaddedProgramsHaveTheSameOutputs(t *testing.T) {
	randomCases(300, 0, func(r *rand.Rand, d []api.Device, _ []api.Command) {
		at := r.IntN(len(d))
		wantSameOutputs(t, d, at, fittingProgram(t, r, d[at], []int{api.StateIdle}))
		// After a reset another device would select its idcode, not its bypass.
		for i := range d {
			if i != at {
				d[i].Id = 0
			}
		}
		wantSameOutputs(t, d, at, fittingProgram(t, r, d[at], []int{api.StateIdle, api.StateReset}))
	})
}

// plainWithout removes commands without effect, as P6.5 says it: first settings for no scan, then what changes nothing.
func plainWithout(l []api.Command) []api.Command {
	registers := map[int]int{
		api.CommandEndIR: api.CommandScanIR, api.CommandHeadIR: api.CommandScanIR, api.CommandTailIR: api.CommandScanIR,
		api.CommandEndDR: api.CommandScanDR, api.CommandHeadDR: api.CommandScanDR, api.CommandTailDR: api.CommandScanDR,
	}
	var used []api.Command
	for i, c := range l {
		scan, isSetting := registers[c.Kind]
		isUsed := !isSetting
		for _, later := range l[i+1:] {
			if isSetting && later.Kind == c.Kind {
				break
			}
			isUsed = isUsed || later.Kind == scan
		}
		if isUsed {
			used = append(used, c)
		}
	}
	var kept []api.Command
	for _, c := range used {
		p := played(kept)
		_, isSetting := registers[c.Kind]
		isSet := isSetting && c.State == p.set[c.Kind].State && c.Bits == p.set[c.Kind].Bits
		isIdle := c.Kind == api.CommandIdle && c.Clocks == 0 && p.state == api.StateIdle
		isThere := c.Kind == api.CommandGo && c.State == p.state
		if !isSet && !isIdle && !isThere {
			kept = append(kept, c)
		}
	}
	return kept
}

func TestWithout(t *testing.T) {
	for _, c := range []struct {
		name    string
		l, want []string
	}{
		{"no commands", nil, nil},
		{"scans stay", []string{"scanir 1", "scandr 0", "scandr 0 1 0"}, []string{"scanir 1", "scandr 0", "scandr 0 1 0"}},
		{"settings without a scan", []string{"endir reset", "enddr reset", "headir 1", "tailir 1", "headdr 1", "taildr 1"}, nil},
		{"settings after the last scan", []string{"scanir 1", "scandr 1", "endir reset", "enddr reset", "headir 1", "tailir 1", "headdr 1", "taildr 1", "idle 1"}, []string{"scanir 1", "scandr 1", "idle 1"}},
		{"settings of instructions before data", []string{"endir reset", "headir 1", "tailir 1", "scandr 1"}, []string{"scandr 1"}},
		{"settings of data before instructions", []string{"enddr reset", "headdr 1", "taildr 1", "scanir 1"}, []string{"scanir 1"}},
		{"settings that are used", []string{"endir reset", "enddr reset", "headir 1", "tailir 1", "headdr 1", "taildr 1", "scandr 1", "scanir 1"}, []string{"endir reset", "enddr reset", "headir 1", "tailir 1", "headdr 1", "taildr 1", "scandr 1", "scanir 1"}},
		{"the next setting comes first", []string{"headir 1", "headir 0", "idle 0", "headir 11", "scanir 1"}, []string{"idle 0", "headir 11", "scanir 1"}},
		{"another kind is no next setting", []string{"headir 1", "tailir 1", "headdr 1", "scanir 1"}, []string{"headir 1", "tailir 1", "scanir 1"}},
		{"as at the beginning", []string{"endir idle", "enddr idle", "headir -", "tailir -", "headdr -", "taildr -", "scanir 1", "scandr 1"}, []string{"scanir 1", "scandr 1"}},
		{"set already", []string{"headir 1", "scanir 1", "headir 1", "scanir 1"}, []string{"headir 1", "scanir 1", "scanir 1"}},
		{"set already, with others between", []string{"headir 1", "scanir 1", "tailir 1", "headir 1", "scanir 1", "tailir 1", "scanir 1"}, []string{"headir 1", "scanir 1", "tailir 1", "scanir 1", "scanir 1"}},
		{"set otherwise by what does not remain", []string{"enddr pausedr", "scandr 1", "enddr reset", "enddr pausedr", "scandr 1"}, []string{"enddr pausedr", "scandr 1", "scandr 1"}},
		{"as at the beginning, after what does not remain", []string{"taildr 1", "taildr -", "scandr 1"}, []string{"scandr 1"}},
		{"as at the beginning, after what remains", []string{"taildr 1", "scandr 1", "taildr -", "scandr 1"}, []string{"taildr 1", "scandr 1", "taildr -", "scandr 1"}},
		{"idle", []string{"idle 0", "idle 0", "idle 1", "idle 0"}, []string{"idle 0", "idle 1"}},
		{"idle in another state", []string{"go pausedr", "idle 0", "go reset", "idle 0"}, []string{"go pausedr", "idle 0", "go reset", "idle 0"}},
		{"idle after a scan", []string{"endir pauseir", "scanir 1", "idle 0", "scandr 1", "idle 0"}, []string{"endir pauseir", "scanir 1", "idle 0", "scandr 1"}},
		{"go to the current state", []string{"go reset", "go idle", "go idle", "idle 0", "go pausedr", "go pausedr", "go pauseir", "go pauseir", "go reset", "go reset"}, []string{"go idle", "go pausedr", "go pauseir", "go reset"}},
		{"go after a scan", []string{"enddr pausedr", "scandr 1", "go pausedr", "scandr 1", "go pauseir"}, []string{"enddr pausedr", "scandr 1", "scandr 1", "go pauseir"}},
	} {
		l := program(t, c.l...)
		wantList(t, c.name+": the model", program(t, c.want...)...)(plainWithout(l), api.OK)
		wantList(t, c.name, program(t, c.want...)...)(Without(l))
	}
}

func TestWithoutIsPlain(t *testing.T) {
	removed := 0
	randomCases(1_000, 16, func(_ *rand.Rand, _ []api.Device, l []api.Command) {
		want := plainWithout(l)
		wantList(t, "random", want...)(Without(l))
		wantList(t, "again", want...)(Without(want))
		removed += len(l) - len(want)
		if is, e := Same(l, want); e != api.OK || !is {
			t.Error(l, want, is, e)
		}
	})
	if removed < 1_000 {
		t.Error("few commands without effect", removed)
	}
}

func TestWithoutSize(t *testing.T) {
	l := slices.Repeat(program(t, "headir "+bits(2_000), "enddr reset", "go reset", "tailir 1"), 250)
	wantList[api.Command](t, "most")(Without(l))
	l[999] = scanned(api.CommandScanIR, "1")
	wantList(t, "all but the last ones", program(t, "tailir 1", "headir "+bits(2_000), "scanir 1")...)(Without(l))
}

func TestSame(t *testing.T) {
	for _, c := range []struct {
		name string
		a, b []string
		want bool
	}{
		{"no commands", nil, nil, true},
		{"nothing but settings", nil, []string{"headir 1", "enddr reset"}, true},
		{"TMS", []string{"idle 0"}, nil, false},
		{"TMS", []string{"scandr 10"}, []string{"scandr 1", "idle 1"}, false},
		{"TDI", []string{"scandr 10"}, []string{"scandr 11"}, false},
		{"what is wanted", []string{"scandr 10 00 11"}, []string{"scandr 10 01 11"}, false},
		{"where it is wanted", []string{"scandr 10 00 11"}, []string{"scandr 10 00 10"}, false},
		{"wanted or not", []string{"scandr 10 00 11"}, []string{"scandr 10"}, false},
		{"wanted where nothing is compared", []string{"scandr 10 00 10"}, []string{"scandr 10 01 10"}, true},
		{"nothing compared", []string{"scandr 10 00 00"}, []string{"scandr 10"}, true},
		{"heads are bits", []string{"headdr 1", "taildr 10", "scandr 0"}, []string{"scandr 1010"}, true},
		{"heads are not compared", []string{"headdr 1", "scandr 0 1 1"}, []string{"scandr 10 01 01"}, true},
		{"idle clocks", []string{"idle 2", "idle 3"}, []string{"idle 5", "go idle"}, true},
		{"ways", []string{"go idle", "scanir 1", "go pausedr"}, []string{"scanir 1", "idle 0", "go pausedr"}, true},
	} {
		a, b := program(t, c.a...), program(t, c.b...)
		for _, pair := range [][2][]api.Command{{a, b}, {b, a}} {
			if is, e := Same(pair[0], pair[1]); e != api.OK || is != c.want {
				t.Errorf("%s: %t %v", c.name, is, e)
			}
		}
	}
	randomCases(500, 6, func(_ *rand.Rand, _ []api.Device, l []api.Command) {
		for i := range l {
			other := slices.Delete(slices.Clone(l), i, i+1)
			p, q := played(l), played(other)
			want := p.tms == q.tms && p.tdi == q.tdi && p.tdo == q.tdo
			if is, e := Same(l, other); e != api.OK || is != want {
				t.Error(l, other, is, e)
			}
		}
	})
}

func TestSameErrors(t *testing.T) {
	bad, worse := scanned(api.CommandHeadIR, "x"), api.Command{Kind: api.CommandGo, State: 2}
	for _, c := range []struct {
		a, b []api.Command
		want api.Errno
	}{
		{[]api.Command{bad}, []api.Command{worse}, api.ErrSyntax},
		{[]api.Command{worse}, []api.Command{bad}, api.ErrArg},
		{nil, []api.Command{worse}, api.ErrArg},
		{[]api.Command{bad}, nil, api.ErrSyntax},
	} {
		if is, e := Same(c.a, c.b); e != c.want || is {
			t.Errorf("%v %v: %t %v", c.a, c.b, is, e)
		}
	}
}
