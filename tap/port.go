package tap

import (
	"strings"

	"scanchain/api"
)

// shiftRegister has its bit 0 at first: shifting moves that place instead of the bits.
type shiftRegister struct {
	bits  []byte
	first int
}

func (s *shiftRegister) load(bits string) {
	s.bits = []byte(bits)
	s.first = 0
}

// shift shifts a bit in, and returns the one that is shifted out.
func (s *shiftRegister) shift(in byte) byte {
	out := s.bits[s.first]
	s.bits[s.first] = in
	s.first = (s.first + 1) % len(s.bits)
	return out
}

func (s *shiftRegister) content() string {
	return string(s.bits[s.first:]) + string(s.bits[:s.first])
}

// port is the test access port of a device: all of it but the state, which the chain has.
type port struct {
	firstRegister string            // selected after a reset
	codeRegisters map[string]string // by instruction
	capturedCode  string
	inputs        map[string]string // of all data registers
	outputs       map[string]string // of the device's Registers
	instruction   string
	selected      string
	shifter       shiftRegister
}

func newPort(d api.Device) *port {
	p := &port{
		firstRegister: bypass,
		codeRegisters: codeRegisters(d),
		capturedCode:  "1" + strings.Repeat("0", d.Long-1),
		inputs:        map[string]string{bypass: "0"},
		outputs:       map[string]string{},
	}
	if d.Id != 0 {
		p.firstRegister = idcode
		p.inputs[idcode] = idcodeBits(d.Id)
	}
	for _, r := range d.Registers {
		p.inputs[r.Name] = strings.Repeat("0", r.Long)
		p.outputs[r.Name] = strings.Repeat("0", r.Long)
	}
	p.shifter.load("0")
	p.reset()
	return p
}

// idcodeBits returns the bits of an idcode, the one of value 1 first.
func idcodeBits(id int) string {
	bits := make([]byte, idcodeLong)
	for i := range bits {
		bits[i] = '0' + byte(id>>i&1)
	}
	return string(bits)
}

func (p *port) reset() {
	p.instruction = ""
	p.selected = p.firstRegister
}

func (p *port) captureDR() {
	p.shifter.load(p.inputs[p.selected])
}

func (p *port) updateDR() {
	if _, own := p.outputs[p.selected]; own {
		p.outputs[p.selected] = p.shifter.content()
	}
}

func (p *port) captureIR() {
	p.shifter.load(p.capturedCode)
}

func (p *port) updateIR() {
	p.instruction = p.shifter.content()
	p.selected = registerOf(p.codeRegisters, p.instruction)
}
