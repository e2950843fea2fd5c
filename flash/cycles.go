package flash

import (
	"cmp"
	"slices"

	"scanchain/api"
	"scanchain/numbers"
)

const (
	mostAddress = 65_535 // of a cycle
	mostLong    = 100_000
	eraseData   = 48  // of the last cycle of Erase
	resetData   = 240 // the memory reads again
)

// programStart returns the cycles of Program but the last one.
func programStart() []api.Cycle {
	return []api.Cycle{{Address: 1365, Data: 170}, {Address: 682, Data: 85}, {Address: 1365, Data: 160}}
}

// eraseStart returns the cycles of Erase but the last one.
func eraseStart() []api.Cycle {
	return []api.Cycle{{Address: 1365, Data: 170}, {Address: 682, Data: 85}, {Address: 1365, Data: 128}, {Address: 1365, Data: 170}, {Address: 682, Data: 85}}
}

// Cycles returns the cycles for operations.
func Cycles(f api.Flash, o []api.Op) ([]api.Cycle, api.Errno) {
	if e := CheckOps(f, o); e != api.OK {
		return nil, e
	}
	var c []api.Cycle
	spans := spansOf(f)
	for _, op := range o {
		if op.Kind == api.OpErase {
			c = append(c, eraseStart()...)
			c = append(c, api.Cycle{Address: spans[op.Address].From, Data: eraseData})
		} else {
			c = append(c, programStart()...)
			c = append(c, api.Cycle{Address: op.Address, Data: op.Value})
		}
	}
	if len(c) > api.MaxCycles {
		return nil, api.ErrFull
	}
	return c, api.OK
}

// Shifts returns how many clocks operations need through a chain.
func Shifts(f api.Flash, o []api.Op, long int) (int, api.Errno) {
	if e := CheckOps(f, o); e != api.OK {
		return 0, e
	}
	if !numbers.AreWithin(1, mostLong, long) {
		return 0, api.ErrArg
	}
	c, e := Cycles(f, o)
	return len(c) * (3*long + 5), e
}

// Drive returns the words after cycles, and the cycles that were ignored.
func Drive(f api.Flash, words []int, c []api.Cycle) ([]int, []int, api.Errno) {
	if e := cmp.Or(CheckImage(f, words), checkCycles(c)); e != api.OK {
		return nil, nil, e
	}
	m := memoryOf(f, words)
	takes := m.driver()
	var ignored []int
	for i, cycle := range c {
		if !takes(cycle) {
			ignored = append(ignored, i)
		}
	}
	return m.words, ignored, api.OK
}

func checkCycles(c []api.Cycle) api.Errno {
	if len(c) > api.MaxCycles {
		return api.ErrLarge
	}
	for _, cycle := range c {
		if !numbers.AreWithin(0, mostAddress, cycle.Address) || !numbers.AreWithin(0, api.MaxWord, cycle.Data) {
			return api.ErrArg
		}
	}
	return api.OK
}

// driver returns a function that drives a cycle, and reports whether it is not ignored.
func (m memory) driver() func(c api.Cycle) bool {
	program, erase := programStart(), eraseStart()
	var begun []api.Cycle // those of a sequence so far
	return func(c api.Cycle) bool {
		before := begun
		begun = nil
		switch {
		case slices.Equal(before, program):
			return m.takesWord(c)
		case c.Data == resetData:
			return true
		case slices.Equal(before, erase):
			return m.takesErase(c)
		}
		next := append(before, c)
		if !isStart(next, program) && !isStart(next, erase) {
			return false
		}
		begun = next
		return true
	}
}

// isStart reports whether a sequence begins with some cycles.
func isStart(c, sequence []api.Cycle) bool {
	return len(c) <= len(sequence) && slices.Equal(c, sequence[:len(c)])
}

// takesWord drives the last cycle of Program.
func (m memory) takesWord(c api.Cycle) bool {
	if !m.has(c.Address) {
		return false
	}
	m.program(c.Address, c.Data)
	return true
}

// takesErase drives the last cycle of Erase.
func (m memory) takesErase(c api.Cycle) bool {
	sector, is := sectorAt(m.spans, c.Address)
	if !is || c.Data != eraseData {
		return false
	}
	m.erase(sector)
	return true
}
