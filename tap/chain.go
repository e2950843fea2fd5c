package tap

import (
	"scanchain/api"
	"scanchain/words"
)

// noBit is TDO at a clock at which nothing is shifted.
const noBit = 'z'

// Chain is a chain of devices.
type Chain struct {
	state  int
	ports  []*port // that of the device that receives TDI first
	byName map[string]*port
}

// New makes a chain.
func New(d []api.Device) (*Chain, api.Errno) {
	if e := CheckDevices(d); e != api.OK {
		return nil, e
	}
	c := &Chain{state: api.StateReset, byName: map[string]*port{}}
	for _, device := range d {
		p := newPort(device)
		c.ports = append(c.ports, p)
		c.byName[device.Name] = p
	}
	return c, api.OK
}

// Clock is a clock.
func (c *Chain) Clock(tms, tdi int) (int, api.Errno) {
	if !isBit(tms) || !isBit(tdi) {
		return 0, api.ErrArg
	}
	tdo := c.step('0'+byte(tms), '0'+byte(tdi))
	if tdo == noBit {
		return -1, api.OK
	}
	return int(tdo - '0'), api.OK
}

// State returns the state.
func (c *Chain) State() int {
	return c.state
}

// Instruction returns the instruction of a device.
func (c *Chain) Instruction(device string) (string, api.Errno) {
	p, known := c.byName[device]
	if !known {
		return "", api.ErrNone
	}
	return p.instruction, api.OK
}

// Output returns the output of a register.
func (c *Chain) Output(device, register string) (string, api.Errno) {
	p, known := c.byName[device]
	if !known {
		return "", api.ErrNone
	}
	bits, known := p.outputs[register]
	if !known {
		return "", api.ErrNone
	}
	return bits, api.OK
}

// SetInput sets the input of a register.
func (c *Chain) SetInput(device, register, bits string) api.Errno {
	output, e := c.Output(device, register)
	if e != api.OK {
		return e
	}
	if e := checkCode(bits, len(output)); e != api.OK {
		return e
	}
	c.byName[device].inputs[register] = bits
	return api.OK
}

// ShiftIR shifts bits through the instruction registers.
func (c *Chain) ShiftIR(bits string) (string, api.Errno) {
	return c.shiftIn(api.StateShiftIR, bits)
}

// ShiftDR shifts bits through the data registers.
func (c *Chain) ShiftDR(bits string) (string, api.Errno) {
	return c.shiftIn(api.StateShiftDR, bits)
}

func (c *Chain) shiftIn(state int, bits string) (string, api.Errno) {
	if c.state != api.StateIdle && c.state != api.StateReset {
		return "", api.ErrState
	}
	if bits == "" {
		return "", api.ErrNone
	}
	if e := checkClocks(bits); e != api.OK {
		return "", e
	}
	c.follow(shortestPath(c.state, state))
	last := len(bits) - 1
	out := make([]byte, len(bits))
	for i := range last {
		out[i] = c.step('0', bits[i])
	}
	out[last] = c.step('1', bits[last])
	c.follow("10")
	return string(out), api.OK
}

// follow clocks once for each bit of TMS, with TDI 0.
func (c *Chain) follow(tms string) {
	for i := range len(tms) {
		c.step(tms[i], '0')
	}
}

// step is a clock with TMS and TDI as bytes of bit strings; it returns TDO as such a byte, or noBit.
func (c *Chain) step(tms, tdi byte) byte {
	tdo := c.act(tdi)
	c.state = after(c.state, tms)
	return tdo
}

// act does the action of the current state.
func (c *Chain) act(tdi byte) byte {
	switch c.state {
	case api.StateReset:
		c.each((*port).reset)
	case api.StateCaptureDR:
		c.each((*port).captureDR)
	case api.StateUpdateDR:
		c.each((*port).updateDR)
	case api.StateCaptureIR:
		c.each((*port).captureIR)
	case api.StateUpdateIR:
		c.each((*port).updateIR)
	case api.StateShiftDR, api.StateShiftIR:
		bit := tdi
		c.each(func(p *port) { bit = p.shifter.shift(bit) })
		return bit
	}
	return noBit
}

func (c *Chain) each(do func(*port)) {
	for _, p := range c.ports {
		do(p)
	}
}

// Run returns what comes out at each clock of a new chain.
func Run(d []api.Device, tms, tdi string) (string, api.Errno) {
	c, e := New(d)
	if e != api.OK {
		return "", e
	}
	if len(tms) > api.MaxClocks || len(tdi) > api.MaxClocks {
		return "", api.ErrLarge
	}
	if len(tms) != len(tdi) {
		return "", api.ErrForm
	}
	if !words.IsBits(tms) || !words.IsBits(tdi) {
		return "", api.ErrSyntax
	}
	out := make([]byte, len(tms))
	for i := range out {
		out[i] = c.step(tms[i], tdi[i])
	}
	return string(out), api.OK
}
