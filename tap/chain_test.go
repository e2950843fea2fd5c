package tap

import (
	"math"
	"math/rand/v2"
	"strings"
	"testing"

	"scanchain/api"
	"scanchain/words"
)

func newChain(t *testing.T, d []api.Device) *Chain {
	t.Helper()
	c, e := New(d)
	if e != api.OK || c == nil {
		t.Fatal(e)
	}
	return c
}

func clocks(t *testing.T, c *Chain, tms string) {
	t.Helper()
	for _, bit := range tms {
		if _, e := c.Clock(int(bit-'0'), 0); e != api.OK {
			t.Fatal(e)
		}
	}
}

func wantInstruction(t *testing.T, c *Chain, device, want string) {
	t.Helper()
	if s, e := c.Instruction(device); e != api.OK || s != want {
		t.Errorf("instruction of %s: %q %v, not %q", device, s, e, want)
	}
}

func wantOutput(t *testing.T, c *Chain, device, register, want string) {
	t.Helper()
	if s, e := c.Output(device, register); e != api.OK || s != want {
		t.Errorf("output of %s %s: %q %v, not %q", device, register, s, e, want)
	}
}

func wantShiftIR(t *testing.T, c *Chain, bits, want string) {
	t.Helper()
	if s, e := c.ShiftIR(bits); e != api.OK || s != want || c.State() != api.StateIdle {
		t.Errorf("ShiftIR %s: %q %v, not %q", bits, s, e, want)
	}
}

func wantShiftDR(t *testing.T, c *Chain, bits, want string) {
	t.Helper()
	if s, e := c.ShiftDR(bits); e != api.OK || s != want || c.State() != api.StateIdle {
		t.Errorf("ShiftDR %s: %q %v, not %q", bits, s, e, want)
	}
}

func TestNewChain(t *testing.T) {
	c := newChain(t, twoDevices())
	if c.State() != api.StateReset {
		t.Error(c.State())
	}
	wantInstruction(t, c, "u1", "")
	wantInstruction(t, c, "u2", "")
	wantOutput(t, c, "u1", "data", "00")
	wantOutput(t, c, "u1", "more", "0000")
	wantOutput(t, c, "u2", "data", "000")
	// u2 has no idcode: its bypass comes first, then the idcode of u1, then what was shifted in.
	wantShiftDR(t, c, "1"+strings.Repeat("10", 18), "0"+"101"+strings.Repeat("0", 29)+"1101")
	// The inputs of a new chain are 0.
	wantShiftIR(t, c, "10110", "10100")
	wantInstruction(t, c, "u1", "110")
	wantInstruction(t, c, "u2", "10")
	wantShiftDR(t, c, "1111111", "0000000")
}

func TestRunShiftsIdcode(t *testing.T) {
	out, e := Run(twoDevices()[:1], "0100000", "0000000")
	if e != api.OK || out != "zzzz101" {
		t.Error(out, e)
	}
}

func TestShiftInstructions(t *testing.T) {
	c := newChain(t, twoDevices())
	wantShiftIR(t, c, "11010", "10100")
	wantInstruction(t, c, "u1", "010")
	wantInstruction(t, c, "u2", "11")
	// What is captured does not depend on the instruction; more bits than registers come out again.
	wantShiftIR(t, c, "1101110", "1010011")
	wantInstruction(t, c, "u1", "110")
	wantInstruction(t, c, "u2", "01")
	// Too few bits leave what was captured behind them.
	wantShiftIR(t, c, "0", "1")
	wantInstruction(t, c, "u1", "000")
	wantInstruction(t, c, "u2", "01")
}

func TestInputsAndOutputs(t *testing.T) {
	c := newChain(t, twoDevices())
	for _, set := range [][3]string{{"u1", "data", "01"}, {"u1", "more", "1000"}, {"u2", "data", "110"}} {
		if e := c.SetInput(set[0], set[1], set[2]); e != api.OK {
			t.Error(set, e)
		}
	}
	wantShiftIR(t, c, "10010", "10100")
	wantShiftDR(t, c, "00110", "11001")
	wantOutput(t, c, "u1", "data", "10")
	wantOutput(t, c, "u1", "more", "0000")
	wantOutput(t, c, "u2", "data", "001")
	// The input stays, and the other register of u1 has its own.
	wantShiftIR(t, c, "11110", "10100")
	wantShiftDR(t, c, "011010", "010000")
	wantOutput(t, c, "u1", "data", "10")
	wantOutput(t, c, "u1", "more", "1010")
	wantOutput(t, c, "u2", "data", "001")
}

func TestUpdateWithoutShift(t *testing.T) {
	c := newChain(t, twoDevices())
	c.SetInput("u2", "data", "011")
	wantShiftIR(t, c, "10111", "10100")
	clocks(t, c, "101")
	c.SetInput("u2", "data", "100")
	wantOutput(t, c, "u2", "data", "000")
	clocks(t, c, "1")
	if c.State() != api.StateUpdateDR {
		t.Fatal(c.State())
	}
	// The action is that of the state that the clock leaves.
	wantOutput(t, c, "u2", "data", "000")
	clocks(t, c, "0")
	wantOutput(t, c, "u2", "data", "011")
	// An instruction register without a shift gets what it captures.
	clocks(t, c, "11011")
	wantInstruction(t, c, "u1", "111")
	clocks(t, c, "0")
	wantInstruction(t, c, "u1", "100")
	wantInstruction(t, c, "u2", "10")
}

func TestIdcodeAndBypassAreNotWritten(t *testing.T) {
	c := newChain(t, twoDevices())
	wantShiftIR(t, c, "01001", "10100")
	wantShiftDR(t, c, strings.Repeat("1", 33), "0101"+strings.Repeat("0", 29))
	wantShiftDR(t, c, strings.Repeat("0", 33), "0101"+strings.Repeat("0", 29))
}

func TestReset(t *testing.T) {
	c := newChain(t, twoDevices())
	c.SetInput("u1", "data", "11")
	wantShiftIR(t, c, "10010", "10100")
	wantShiftDR(t, c, "10101", "00011")
	clocks(t, c, "111")
	if c.State() != api.StateReset {
		t.Fatal(c.State())
	}
	wantInstruction(t, c, "u1", "010")
	clocks(t, c, "1")
	wantInstruction(t, c, "u1", "")
	wantInstruction(t, c, "u2", "")
	wantOutput(t, c, "u1", "data", "01")
	wantOutput(t, c, "u2", "data", "101")
	wantShiftDR(t, c, "0000", "0101")
	wantInstruction(t, c, "u1", "")
	wantShiftIR(t, c, "11010", "10100")
	wantShiftDR(t, c, "000", "011")
}

func TestShiftFromReset(t *testing.T) {
	c := newChain(t, twoDevices())
	wantShiftIR(t, c, "11010", "10100")
	clocks(t, c, "111")
	// The clock that leaves StateReset does its action.
	wantShiftDR(t, c, "0000", "0101")
}

func TestPauseKeepsBits(t *testing.T) {
	c := newChain(t, twoDevices())
	wantShiftIR(t, c, "10010", "10100")
	clocks(t, c, "100")
	var out []int
	for i, bit := range "10110" {
		tdo, e := c.Clock(1, int(bit-'0'))
		if e != api.OK {
			t.Fatal(e)
		}
		out = append(out, tdo)
		if i < 4 {
			clocks(t, c, "00010")
		}
	}
	for _, tdo := range out {
		if tdo != 0 {
			t.Error(out)
		}
	}
	clocks(t, c, "10")
	wantOutput(t, c, "u2", "data", "101")
	wantOutput(t, c, "u1", "data", "10")
}

func TestClockReturnsTdoInShiftStates(t *testing.T) {
	c := newChain(t, twoDevices())
	for _, tms := range "0110000110100000100111111010101001101" {
		state := c.State()
		tdo, e := c.Clock(int(tms-'0'), 1)
		shifts := state == api.StateShiftDR || state == api.StateShiftIR
		if e != api.OK || shifts != (tdo == 0 || tdo == 1) || shifts == (tdo == -1) {
			t.Error(state, tdo, e)
		}
		if next, _ := Next(state, int(tms-'0')); c.State() != next {
			t.Error(state, c.State())
		}
	}
}

func TestChainErrors(t *testing.T) {
	c := newChain(t, twoDevices())
	wantShiftIR(t, c, "10010", "10100")
	c.SetInput("u1", "data", "10")
	for _, bits := range [][2]int{{-1, 0}, {2, 0}, {0, -1}, {1, 2}, {math.MinInt, math.MaxInt}, {256, 0}, {0, 256}} {
		if tdo, e := c.Clock(bits[0], bits[1]); e != api.ErrArg || tdo != 0 || c.State() != api.StateIdle {
			t.Error(bits, tdo, e)
		}
	}
	for _, device := range []string{"", "u", "U1", "u3"} {
		if s, e := c.Instruction(device); e != api.ErrNone || s != "" {
			t.Error(device, s, e)
		}
		if s, e := c.Output(device, "data"); e != api.ErrNone || s != "" {
			t.Error(device, s, e)
		}
		if e := c.SetInput(device, "data", "x"); e != api.ErrNone {
			t.Error(device, e)
		}
	}
	for _, register := range []string{"", "bypass", "idcode", "more", "datas"} {
		if s, e := c.Output("u2", register); e != api.ErrNone || s != "" {
			t.Error(register, s, e)
		}
		if e := c.SetInput("u2", register, "0"); e != api.ErrNone {
			t.Error(register, e)
		}
	}
	if e := c.SetInput("u1", "idcode", strings.Repeat("0", 32)); e != api.ErrNone {
		t.Error(e)
	}
	for bits, want := range map[string]api.Errno{"": api.ErrForm, "x": api.ErrForm, "000": api.ErrForm, "0x": api.ErrSyntax, "2\n": api.ErrSyntax} {
		if e := c.SetInput("u1", "data", bits); e != want {
			t.Error(bits, e)
		}
	}
	wantShiftDR(t, c, "00000", "00010")
}

func TestShiftErrors(t *testing.T) {
	d := twoDevices()
	long := strings.Repeat("0", api.MaxClocks)
	for tms := range 1 << 6 {
		c := newChain(t, d)
		for i := range 6 {
			c.Clock(tms>>i&1, 0)
		}
		state := c.State()
		if state == api.StateIdle || state == api.StateReset {
			continue
		}
		for _, shift := range []func(string) (string, api.Errno){c.ShiftIR, c.ShiftDR} {
			for _, bits := range []string{"0", "", "x", long + "x"} {
				if s, e := shift(bits); e != api.ErrState || s != "" || c.State() != state {
					t.Error(state, s, e)
				}
			}
		}
	}
	c := newChain(t, d)
	for _, shift := range []func(string) (string, api.Errno){c.ShiftIR, c.ShiftDR} {
		for bits, want := range map[string]api.Errno{"": api.ErrNone, long + "x": api.ErrLarge, "01x": api.ErrSyntax} {
			if s, e := shift(bits); e != want || s != "" || c.State() != api.StateReset {
				t.Error(len(bits), s, e)
			}
		}
		wantInstruction(t, c, "u1", "")
	}
	if s, e := c.ShiftIR(long); e != api.OK || len(s) != api.MaxClocks {
		t.Error(len(s), e)
	}
	if s, e := c.ShiftDR(long); e != api.OK || len(s) != api.MaxClocks {
		t.Error(len(s), e)
	}
}

func TestRunErrors(t *testing.T) {
	d := twoDevices()
	long := strings.Repeat("0", api.MaxClocks)
	for _, c := range []struct {
		tms, tdi string
		want     api.Errno
	}{
		{long + "x", long, api.ErrLarge},
		{"", long + "0", api.ErrLarge},
		{"x", "", api.ErrForm},
		{"0", "xx", api.ErrForm},
		{"0x", "00", api.ErrSyntax},
		{"00", "02", api.ErrSyntax},
	} {
		if out, e := Run(d, c.tms, c.tdi); e != c.want || out != "" {
			t.Error(len(c.tms), len(c.tdi), out, e)
		}
	}
	if out, e := Run(d, "", ""); e != api.OK || out != "" {
		t.Error(out, e)
	}
	if out, e := Run(d, long, long); e != api.OK || out != strings.Repeat("z", api.MaxClocks) {
		t.Error(len(out), e)
	}
}

// plainChain does as P1.3 says with all bits of all shift registers in one string.
type plainChain struct {
	d        []api.Device
	state    int
	codes    []string // empty: none since the reset
	selected []string
	input    map[string]string
	output   map[string]string
	shift    []string
}

func newPlainChain(d []api.Device) *plainChain {
	m := &plainChain{d: d, codes: make([]string, len(d)), selected: make([]string, len(d)), input: map[string]string{}, output: map[string]string{}, shift: make([]string, len(d))}
	for i, device := range d {
		m.shift[i] = "0"
		for _, r := range device.Registers {
			m.input[device.Name+" "+r.Name] = strings.Repeat("0", r.Long)
			m.output[device.Name+" "+r.Name] = strings.Repeat("0", r.Long)
		}
	}
	m.reset()
	return m
}

func (m *plainChain) reset() {
	for i, device := range m.d {
		m.codes[i], m.selected[i] = "", "bypass"
		if device.Id != 0 {
			m.selected[i] = "idcode"
		}
	}
}

func (m *plainChain) captured(i int) string {
	switch m.selected[i] {
	case "bypass":
		return "0"
	case "idcode":
		bits := ""
		for id, n := m.d[i].Id, 0; n < 32; id, n = id/2, n+1 {
			bits += string(rune('0' + id%2))
		}
		return bits
	}
	return m.input[m.d[i].Name+" "+m.selected[i]]
}

func (m *plainChain) update(i int) {
	m.codes[i], m.selected[i] = m.shift[i], "bypass"
	for _, instr := range m.d[i].Instrs {
		if instr.Code == m.shift[i] {
			m.selected[i] = instr.Register
		}
	}
}

func (m *plainChain) clock(tms, tdi int) int {
	tdo := -1
	carry := string(rune('0' + tdi))
	if m.state == api.StateReset {
		m.reset()
	}
	for i, device := range m.d {
		switch m.state {
		case api.StateCaptureDR:
			m.shift[i] = m.captured(i)
		case api.StateCaptureIR:
			m.shift[i] = ("1" + strings.Repeat("0", 31))[:device.Long]
		case api.StateShiftDR, api.StateShiftIR:
			all := m.shift[i] + carry
			carry, m.shift[i] = all[:1], all[1:]
			tdo = int(carry[0] - '0')
		case api.StateUpdateDR:
			if _, own := m.output[device.Name+" "+m.selected[i]]; own {
				m.output[device.Name+" "+m.selected[i]] = m.shift[i]
			}
		case api.StateUpdateIR:
			m.update(i)
		}
	}
	m.state = stateRows()[m.state][1+tms]
	return tdo
}

func randomBits(r *rand.Rand, n int) string {
	bits := make([]byte, n)
	for i := range bits {
		bits[i] = '0' + byte(r.IntN(2))
	}
	return string(bits)
}

func randomDevices(r *rand.Rand) []api.Device {
	d := manyDevices(1 + r.IntN(5))
	for i := range d {
		d[i].Long = 2 + r.IntN(3)
		targets := []string{"bypass"}
		if r.IntN(2) == 0 {
			d[i].Id = 2*r.IntN(1<<31) + 1
			targets = append(targets, "idcode")
		}
		d[i].Registers = manyRegisters(r.IntN(4))
		for j := range d[i].Registers {
			d[i].Registers[j].Long = 1 + r.IntN(5)
			targets = append(targets, d[i].Registers[j].Name)
		}
		isNew := words.Fresh(strings.Repeat("1", d[i].Long))
		for range r.IntN(8) {
			if code := randomBits(r, d[i].Long); isNew(code) {
				d[i].Instrs = append(d[i].Instrs, api.Instr{Code: code, Register: targets[r.IntN(len(targets))]})
			}
		}
	}
	return d
}

func compareChains(t *testing.T, c *Chain, m *plainChain) {
	t.Helper()
	if c.State() != m.state {
		t.Fatal(c.State(), m.state)
	}
	for i, device := range m.d {
		wantInstruction(t, c, device.Name, m.codes[i])
		for _, r := range device.Registers {
			wantOutput(t, c, device.Name, r.Name, m.output[device.Name+" "+r.Name])
		}
	}
}

func TestChainsDoAsSpecified(t *testing.T) {
	r := rand.New(rand.NewPCG(1, 2))
	for range 200 {
		d := randomDevices(r)
		c, m := newChain(t, d), newPlainChain(d)
		if again := newChain(t, d); again == c {
			t.Fatal("one object for two chains")
		}
		tms, tdi, out := "", "", ""
		for range 400 {
			// Mostly TMS 0, so that registers are shifted.
			bit, in := r.IntN(5)/3, r.IntN(2)
			got, e := c.Clock(bit, in)
			want := m.clock(bit, in)
			if e != api.OK || got != want {
				t.Fatal(got, want, e)
			}
			tms, tdi, out = tms+string(rune('0'+bit)), tdi+string(rune('0'+in)), out+string("z01"[want+1])
			compareChains(t, c, m)
		}
		if got, e := Run(d, tms, tdi); e != api.OK || got != out {
			t.Fatal(got, out, e)
		}
	}
}

func TestShiftsDoAsSpecified(t *testing.T) {
	r := rand.New(rand.NewPCG(3, 4))
	for range 100 {
		d := randomDevices(r)
		c, m := newChain(t, d), newPlainChain(d)
		for range 40 {
			for _, device := range d {
				for _, register := range device.Registers {
					bits := randomBits(r, register.Long)
					m.input[device.Name+" "+register.Name] = bits
					if e := c.SetInput(device.Name, register.Name, bits); e != api.OK {
						t.Fatal(e)
					}
				}
			}
			if r.IntN(8) == 0 {
				clocks(t, c, "111")
				for range 3 {
					m.clock(1, 0)
				}
			}
			compareShift(t, r, c, m)
		}
	}
}

func compareShift(t *testing.T, r *rand.Rand, c *Chain, m *plainChain) {
	t.Helper()
	bits := randomBits(r, 1+r.IntN(20))
	shift, way := c.ShiftDR, firstPath(m.state, api.StateShiftDR)
	if r.IntN(2) == 0 {
		shift, way = c.ShiftIR, firstPath(m.state, api.StateShiftIR)
	}
	for _, tms := range way {
		m.clock(int(tms-'0'), 0)
	}
	want := ""
	for i, bit := range bits {
		tms := 0
		if i == len(bits)-1 {
			tms = 1
		}
		want += string(rune('0' + m.clock(tms, int(bit-'0'))))
	}
	m.clock(1, 0)
	m.clock(0, 0)
	if got, e := shift(bits); e != api.OK || got != want {
		t.Fatal(got, want, e)
	}
	compareChains(t, c, m)
}

// TestDelay: what is shifted in comes out after as many clocks as all selected registers together have bits.
func TestDelay(t *testing.T) {
	r := rand.New(rand.NewPCG(5, 6))
	for range 100 {
		d := randomDevices(r)
		c := newChain(t, d)
		long := 0
		for _, device := range d {
			long += device.Long
		}
		codes := randomBits(r, long)
		if _, e := c.ShiftIR(codes); e != api.OK {
			t.Fatal(e)
		}
		delay := 0
		for _, device := range d {
			code, _ := c.Instruction(device.Name)
			register, e := Selected(device, code)
			if e != api.OK {
				t.Fatal(e)
			}
			delay += register.Long
		}
		bits := randomBits(r, 50)
		out, e := c.ShiftDR(bits + strings.Repeat("0", delay))
		if e != api.OK || out[delay:] != bits {
			t.Error(out, bits, delay, e)
		}
	}
}
