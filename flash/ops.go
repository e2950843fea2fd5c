package flash

import (
	"cmp"

	"scanchain/api"
	"scanchain/numbers"
)

// CheckOps says what is wrong with operations.
func CheckOps(f api.Flash, o []api.Op) api.Errno {
	if e := CheckFlash(f); e != api.OK {
		return e
	}
	if len(o) > api.MaxCycles {
		return api.ErrLarge
	}
	sectors, addresses := len(f.Sectors), longOf(f)
	for _, op := range o {
		if e := checkOp(sectors, addresses, op); e != api.OK {
			return e
		}
	}
	return api.OK
}

func checkOp(sectors, addresses int, op api.Op) api.Errno {
	switch op.Kind {
	case api.OpErase:
		switch {
		case !numbers.AreWithin(0, sectors-1, op.Address):
			return api.ErrArg
		case op.Value != 0:
			return api.ErrForm
		}
	case api.OpProgram:
		if !numbers.AreWithin(0, addresses-1, op.Address) || !numbers.AreWithin(0, api.MaxWord, op.Value) {
			return api.ErrArg
		}
	default:
		return api.ErrKind
	}
	return api.OK
}

// Apply does operations.
func Apply(f api.Flash, words []int, o []api.Op) ([]int, api.Errno) {
	if e := cmp.Or(CheckImage(f, words), CheckOps(f, o)); e != api.OK {
		return nil, e
	}
	m := memoryOf(f, words)
	for _, op := range o {
		m.do(op)
	}
	return m.words, api.OK
}

func (m memory) do(op api.Op) {
	if op.Kind == api.OpErase {
		m.erase(op.Address)
	} else {
		m.program(op.Address, op.Value)
	}
}

// Plan returns operations that make words of others.
func Plan(f api.Flash, now, want []int) ([]api.Op, api.Errno) {
	if e := cmp.Or(CheckImage(f, now), CheckImage(f, want)); e != api.OK {
		return nil, e
	}
	m := memoryOf(f, now)
	var o []api.Op
	do := func(op api.Op) {
		m.do(op)
		o = append(o, op)
	}
	for sector, span := range m.spans {
		if !isOnlyLowered(now[span.From:span.To], want[span.From:span.To]) {
			do(api.Op{Kind: api.OpErase, Address: sector})
		}
		for address := span.From; address < span.To; address++ {
			if m.words[address] != want[address] {
				do(api.Op{Kind: api.OpProgram, Address: address, Value: want[address]})
			}
		}
	}
	return o, api.OK
}

// isOnlyLowered reports whether no bit that is 0 now is to be 1.
func isOnlyLowered(now, want []int) bool {
	for i := range now {
		if want[i]&^now[i] != 0 {
			return false
		}
	}
	return true
}

// Wear returns how often each sector is erased.
func Wear(f api.Flash, o []api.Op) ([]int, api.Errno) {
	if e := CheckOps(f, o); e != api.OK {
		return nil, e
	}
	erased := make([]int, len(f.Sectors))
	for _, op := range o {
		if op.Kind == api.OpErase {
			erased[op.Address]++
		}
	}
	return erased, api.OK
}

// Differ returns the windows of addresses at which words differ.
func Differ(f api.Flash, a, b []int) ([]api.Window, api.Errno) {
	if e := cmp.Or(CheckImage(f, a), CheckImage(f, b)); e != api.OK {
		return nil, e
	}
	var windows []api.Window
	for address := range a {
		switch last := len(windows) - 1; {
		case a[address] == b[address]:
		case last >= 0 && windows[last].To == address:
			windows[last].To++
		default:
			windows = append(windows, api.Window{From: address, To: address + 1})
		}
	}
	return windows, api.OK
}
