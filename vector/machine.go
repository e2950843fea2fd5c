package vector

import (
	"strings"

	"scanchain/api"
	"scanchain/tap"
)

// register is an instruction or data register: the states in which it is shifted and left, and what is set for its scans.
type register struct {
	shift, exit int
	end         int
	head, tail  string
}

// machine is how a program has left things.
type machine struct {
	state  int
	ir, dr register
}

func start() *machine {
	return &machine{
		state: api.StateReset,
		ir:    register{shift: api.StateShiftIR, exit: api.StateExit1IR, end: api.StateIdle},
		dr:    register{shift: api.StateShiftDR, exit: api.StateExit1DR, end: api.StateIdle},
	}
}

// do does a command, and returns what it did.
func (m *machine) do(c api.Command) action {
	var a action
	switch c.Kind {
	case api.CommandEndIR:
		m.ir.end = c.State
	case api.CommandEndDR:
		m.dr.end = c.State
	case api.CommandHeadIR:
		m.ir.head = c.Bits
	case api.CommandTailIR:
		m.ir.tail = c.Bits
	case api.CommandHeadDR:
		m.dr.head = c.Bits
	case api.CommandTailDR:
		m.dr.tail = c.Bits
	case api.CommandScanIR:
		a = m.scan(m.ir, c)
	case api.CommandScanDR:
		a = m.scan(m.dr, c)
	case api.CommandIdle:
		a = action{lead: m.goTo(api.StateIdle), stay: c.Clocks}
	case api.CommandGo:
		a = action{lead: m.goTo(c.State)}
	}
	a.state = m.state
	return a
}

func (m *machine) scan(r register, c api.Command) action {
	a := action{head: r.head, bits: c.Bits, tail: r.tail, want: c.Want, mask: c.Mask}
	a.lead = m.goTo(r.shift)
	a.stay = len(a.shifted()) - 1
	// The clock of the last bit leaves the state in which bits are shifted.
	m.state = r.exit
	a.leave = "1" + m.goTo(r.end)
	return a
}

// goTo goes to a state, and returns TMS of the way.
func (m *machine) goTo(state int) string {
	// Path has no error here, as both are states.
	tms, _ := tap.Path(m.state, state)
	m.state = state
	return tms
}

// action is what a command does: it goes to a state, stays there for some clocks, and leaves it. From the first clock in that state on, a scan shifts bits.
type action struct {
	lead             string // TMS
	stay             int
	leave            string // TMS
	head, bits, tail string
	want, mask       string
	state            int // after the command
}

func (a action) clocks() int {
	return len(a.lead) + a.stay + len(a.leave)
}

func (a action) shifted() string {
	return a.head + a.bits + a.tail
}

// first returns how many clocks come before those of bits.
func (a action) first() int {
	return len(a.lead) + len(a.head)
}

// expected returns what is expected at the clocks of bits.
func (a action) expected() string {
	bits := []byte(strings.Repeat("x", len(a.bits)))
	for i := range len(a.mask) {
		if a.mask[i] == '1' {
			bits[i] = a.want[i]
		}
	}
	return string(bits)
}

// signals returns TMS, TDI and what is expected of TDO, for each clock.
func (a action) signals() (string, string, string) {
	tms := a.lead + strings.Repeat("0", a.stay) + a.leave
	tdi := placed(a.shifted(), len(a.lead), len(tms), "0")
	return tms, tdi, placed(a.expected(), a.first(), len(tms), "x")
}

// placed returns a string of long bytes that has some of them at a place, and another byte everywhere else.
func placed(some string, at, long int, other string) string {
	return strings.Repeat(other, at) + some + strings.Repeat(other, long-at-len(some))
}

func sumOf(actions []action, count func(action) int) int {
	sum := 0
	for _, a := range actions {
		sum += count(a)
	}
	return sum
}
