package vector

import (
	"math/rand/v2"
	"slices"
	"strings"
	"testing"

	"scanchain/api"
	"scanchain/tap"
)

// program reads commands that are valid: a line for each one.
func program(t *testing.T, lines ...string) []api.Command {
	t.Helper()
	text := ""
	for _, line := range lines {
		text += line + "\n"
	}
	l, _, e := Read(text)
	if e != api.OK {
		t.Fatal(lines, e)
	}
	return l
}

func scanned(kind int, bits string) api.Command {
	return api.Command{Kind: kind, Bits: bits}
}

// tester is a program that is run clock by clock, as P6.2 says it. It knows what is set by the kinds of settings.
type tester struct {
	state         int
	set           map[int]api.Command
	tms, tdi, tdo string
	bitsOf        []int // for each clock the command whose Bits it shifts, or -1
	states        []int
	shiftedIn     map[int]int // by state
}

func newTester() *tester {
	return &tester{
		state: api.StateReset,
		set: map[int]api.Command{
			api.CommandEndIR: {State: api.StateIdle},
			api.CommandEndDR: {State: api.StateIdle},
		},
		shiftedIn: map[int]int{},
	}
}

func (p *tester) clock(tms, tdi, tdo byte, bitsOf int) {
	if p.state == api.StateShiftIR || p.state == api.StateShiftDR {
		p.shiftedIn[p.state]++
	}
	p.state, _ = tap.Next(p.state, int(tms-'0'))
	p.tms += string(tms)
	p.tdi += string(tdi)
	p.tdo += string(tdo)
	p.bitsOf = append(p.bitsOf, bitsOf)
}

func (p *tester) goTo(state int) {
	path, _ := tap.Path(p.state, state)
	for i := range len(path) {
		p.clock(path[i], '0', 'x', -1)
	}
}

func (p *tester) scan(index int, c api.Command, shift, end, head, tail int) {
	p.goTo(shift)
	first := p.set[head].Bits
	all := first + c.Bits + p.set[tail].Bits
	for i := range len(all) {
		tms, tdo, bitsOf := byte('0'), byte('x'), -1
		if i == len(all)-1 {
			tms = '1'
		}
		if bit := i - len(first); bit >= 0 && bit < len(c.Bits) {
			bitsOf = index
			if c.Want != "" && c.Mask[bit] == '1' {
				tdo = c.Want[bit]
			}
		}
		p.clock(tms, all[i], tdo, bitsOf)
	}
	p.goTo(p.set[end].State)
}

// played runs a program by a tester.
func played(l []api.Command) *tester {
	p := newTester()
	for i, c := range l {
		switch c.Kind {
		case api.CommandScanIR:
			p.scan(i, c, api.StateShiftIR, api.CommandEndIR, api.CommandHeadIR, api.CommandTailIR)
		case api.CommandScanDR:
			p.scan(i, c, api.StateShiftDR, api.CommandEndDR, api.CommandHeadDR, api.CommandTailDR)
		case api.CommandIdle:
			p.goTo(api.StateIdle)
			for range c.Clocks {
				p.clock('0', '0', 'x', -1)
			}
		case api.CommandGo:
			p.goTo(c.State)
		default:
			p.set[c.Kind] = c
		}
		p.states = append(p.states, p.state)
	}
	return p
}

// outputs runs a program on a chain clock by clock, and returns the bits of TDO for each command.
func outputs(t *testing.T, d []api.Device, l []api.Command) []string {
	t.Helper()
	c, e := tap.New(d)
	if e != api.OK {
		t.Fatal(e)
	}
	p := played(l)
	out := make([]string, len(l))
	for i, command := range p.bitsOf {
		tdo, e := c.Clock(int(p.tms[i]-'0'), int(p.tdi[i]-'0'))
		if e != api.OK {
			t.Fatal(e)
		}
		if command >= 0 {
			out[command] += string('0' + byte(tdo))
		}
	}
	return out
}

func randomBits(r *rand.Rand, long int) string {
	var bits strings.Builder
	for range long {
		bits.WriteByte('0' + byte(r.IntN(2)))
	}
	return bits.String()
}

func stableStates() []int {
	return []int{api.StateReset, api.StateIdle, api.StatePauseDR, api.StatePauseIR}
}

func randomState(r *rand.Rand) int {
	return stableStates()[r.IntN(4)]
}

func randomCommand(r *rand.Rand) api.Command {
	c := api.Command{Kind: 1 + r.IntN(10)}
	switch c.Kind {
	case api.CommandEndIR, api.CommandEndDR, api.CommandGo:
		c.State = randomState(r)
	case api.CommandIdle:
		c.Clocks = r.IntN(4)
	case api.CommandScanIR, api.CommandScanDR:
		c.Bits = randomBits(r, 1+r.IntN(7))
		if r.IntN(2) == 0 {
			c.Want = randomBits(r, len(c.Bits))
			c.Mask = randomBits(r, len(c.Bits))
		}
	default:
		c.Bits = randomBits(r, r.IntN(3))
	}
	return c
}

func randomDevice(r *rand.Rand, name string) api.Device {
	d := api.Device{Name: name, Long: 2 + r.IntN(3)}
	if r.IntN(2) == 0 {
		d.Id = 2*r.IntN(1<<31) + 1
	}
	for i := range r.IntN(3) {
		d.Registers = append(d.Registers, api.Register{Name: "r" + string(rune('0'+i)), Long: 1 + r.IntN(5)})
	}
	codes := map[string]bool{strings.Repeat("1", d.Long): true}
	for _, register := range d.Registers {
		code := randomBits(r, d.Long)
		if !codes[code] {
			codes[code] = true
			d.Instrs = append(d.Instrs, api.Instr{Code: code, Register: register.Name})
		}
	}
	return d
}

func randomDevices(r *rand.Rand) []api.Device {
	var d []api.Device
	for i := range 1 + r.IntN(4) {
		d = append(d, randomDevice(r, "u"+string(rune('0'+i))))
	}
	return d
}

// randomCases calls do with valid programs, and with devices.
func randomCases(count, most int, do func(r *rand.Rand, d []api.Device, l []api.Command)) {
	r := rand.New(rand.NewPCG(6, 1))
	for range count {
		var l []api.Command
		for range r.IntN(most + 1) {
			l = append(l, randomCommand(r))
		}
		do(r, randomDevices(r), l)
	}
}

// wantList reports a list or an error that is not the one that is wanted.
func wantList[T comparable](t *testing.T, name string, want ...T) func(got []T, e api.Errno) {
	return func(got []T, e api.Errno) {
		t.Helper()
		if e != api.OK || !slices.Equal(got, want) {
			t.Errorf("%s: %v %v, not %v", name, got, e, want)
		}
	}
}
