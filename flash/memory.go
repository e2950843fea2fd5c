// Package flash plans and drives the programming of a flash memory.
package flash

import (
	"slices"

	"scanchain/api"
	"scanchain/numbers"
)

// CheckFlash says what is wrong with a memory.
func CheckFlash(f api.Flash) api.Errno {
	switch {
	case len(f.Sectors) == 0:
		return api.ErrNone
	case len(f.Sectors) > api.MaxSectors:
		return api.ErrLarge
	case !numbers.AreWithin(1, api.MaxWords, f.Sectors...):
		return api.ErrArg
	case longOf(f) > api.MaxWords:
		return api.ErrLarge
	}
	return api.OK
}

// CheckImage says what is wrong with the words of a memory.
func CheckImage(f api.Flash, words []int) api.Errno {
	if e := CheckFlash(f); e != api.OK {
		return e
	}
	switch {
	case len(words) != longOf(f):
		return api.ErrForm
	case !numbers.AreWithin(0, api.MaxWord, words...):
		return api.ErrArg
	}
	return api.OK
}

// SectorOf returns the sector of an address, and its first address.
func SectorOf(f api.Flash, address int) (int, int, api.Errno) {
	if e := CheckFlash(f); e != api.OK {
		return 0, 0, e
	}
	spans := spansOf(f)
	sector, is := sectorAt(spans, address)
	if !is {
		return 0, 0, api.ErrArg
	}
	return sector, spans[sector].From, api.OK
}

// longOf returns how many words a memory has.
func longOf(f api.Flash) int {
	long := 0
	for _, words := range f.Sectors {
		long += words
	}
	return long
}

// spansOf returns the addresses of each sector.
func spansOf(f api.Flash) []api.Window {
	spans := make([]api.Window, len(f.Sectors))
	next := 0
	for sector, words := range f.Sectors {
		spans[sector] = api.Window{From: next, To: next + words}
		next += words
	}
	return spans
}

// sectorAt returns the sector of an address, and true; false if there is no such address.
func sectorAt(spans []api.Window, address int) (int, bool) {
	sector := slices.IndexFunc(spans, func(span api.Window) bool {
		return span.From <= address && address < span.To
	})
	return sector, sector >= 0
}

// memory is a flash memory with its words.
type memory struct {
	spans []api.Window // the addresses of each sector
	words []int
}

// memoryOf returns a memory with a copy of words.
func memoryOf(f api.Flash, words []int) memory {
	return memory{spansOf(f), slices.Clone(words)}
}

func (m memory) has(address int) bool {
	return 0 <= address && address < len(m.words)
}

func (m memory) program(address, value int) {
	m.words[address] &= value
}

func (m memory) erase(sector int) {
	span := m.spans[sector]
	for address := span.From; address < span.To; address++ {
		m.words[address] = api.MaxWord
	}
}
