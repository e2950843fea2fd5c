package flash

import (
	"cmp"
	"math/rand/v2"
	"slices"
	"testing"

	"scanchain/api"
)

// three is a memory of three sectors: with the addresses 0 and 1, 2, and 3 to 5.
func three() api.Flash { return api.Flash{Sectors: []int{2, 1, 3}} }

func erase(sector int) api.Op { return api.Op{Kind: api.OpErase, Address: sector} }

func program(address, value int) api.Op {
	return api.Op{Kind: api.OpProgram, Address: address, Value: value}
}

// sectorNumbers has the number of its sector for each address.
func sectorNumbers(f api.Flash) []int {
	var numbers []int
	for sector, words := range f.Sectors {
		numbers = append(numbers, slices.Repeat([]int{sector}, words)...)
	}
	return numbers
}

// applied is what operations make of words.
func applied(f api.Flash, words []int, o []api.Op) []int {
	after := slices.Clone(words)
	for _, op := range o {
		for address, sector := range sectorNumbers(f) {
			switch {
			case op.Kind == api.OpErase && sector == op.Address:
				after[address] = 65_535
			case op.Kind == api.OpProgram && address == op.Address:
				after[address] &= op.Value
			}
		}
	}
	return after
}

// follows reports how many of the next cycles are of a sequence, up to the end of it; the data of a cycle is free if it is -1, its address too.
func follows(c, sequence []api.Cycle) int {
	for i, step := range sequence {
		free := step.Address < 0
		if i == len(c) || !free && c[i] != step || free && step.Data >= 0 && c[i].Data != step.Data {
			return i
		}
		if c[i].Data == 240 && (!free || step.Data >= 0) {
			return i
		}
	}
	return len(sequence)
}

// driven is what cycles do: from each cycle at which the memory reads, the longer of both sequences is followed.
func driven(f api.Flash, words []int, c []api.Cycle) (after, ignored []int) {
	unlock := []api.Cycle{{Address: 1365, Data: 170}, {Address: 682, Data: 85}}
	toProgram := slices.Concat(unlock, []api.Cycle{{Address: 1365, Data: 160}, {Address: -1, Data: -1}})
	toErase := slices.Concat(unlock, []api.Cycle{{Address: 1365, Data: 128}}, unlock, []api.Cycle{{Address: -1, Data: 48}})
	after = slices.Clone(words)
	for at := 0; at < len(c); at++ {
		programs, erases := follows(c[at:], toProgram), follows(c[at:], toErase)
		at += max(programs, erases)
		switch {
		case programs == 4 || erases == 6:
			at--
			if address := c[at].Address; address >= len(words) {
				ignored = append(ignored, at)
			} else if programs == 4 {
				after = applied(f, after, []api.Op{program(address, c[at].Data)})
			} else {
				after = applied(f, after, []api.Op{erase(sectorNumbers(f)[address])})
			}
		case at < len(c) && c[at].Data != 240:
			ignored = append(ignored, at)
		}
	}
	return after, ignored
}

// leveled is the best of all ways to put files into sectors.
func leveled(f api.Flash, worn, sizes []int) ([]int, bool) {
	var best []int
	found, least := false, 0
	var place func(chosen []int, sum int)
	place = func(chosen []int, sum int) {
		if file := len(chosen); file < len(sizes) {
			for sector, words := range f.Sectors {
				if words >= sizes[file] && !slices.Contains(chosen, sector) {
					place(append(slices.Clone(chosen), sector), sum+worn[sector])
				}
			}
			return
		}
		if !found || cmp.Or(cmp.Compare(sum, least), slices.Compare(chosen, best)) < 0 {
			found, least, best = true, sum, chosen
		}
	}
	place(nil, 0)
	return best, found
}

func randomFlash(r *rand.Rand) api.Flash {
	var f api.Flash
	for range 1 + r.IntN(5) {
		f.Sectors = append(f.Sectors, 1+r.IntN(4))
	}
	return f
}

// randomWords returns words that are often alike, and often erased.
func randomWords(r *rand.Rand, f api.Flash) []int {
	words := make([]int, len(sectorNumbers(f)))
	for address := range words {
		words[address] = []int{65_535, 0, 0xFFFE, 0x0FFF, 240, r.IntN(65_536)}[r.IntN(6)]
	}
	return words
}

func randomOps(r *rand.Rand, f api.Flash, most int) []api.Op {
	var o []api.Op
	for range r.IntN(most + 1) {
		if r.IntN(2) == 0 {
			o = append(o, erase(r.IntN(len(f.Sectors))))
		} else {
			o = append(o, program(r.IntN(len(sectorNumbers(f))), randomWords(r, f)[0]))
		}
	}
	return o
}

// randomCycles returns cycles of sequences, some of which are left out, done twice or changed.
func randomCycles(r *rand.Rand, f api.Flash) []api.Cycle {
	whole, _ := Cycles(f, randomOps(r, f, 6))
	var c []api.Cycle
	for _, cycle := range whole {
		switch r.IntN(20) {
		case 0:
			continue
		case 1:
			c = append(c, cycle)
		case 2:
			cycle.Data = []int{170, 85, 160, 128, 48, 240, 0, 65_535}[r.IntN(8)]
		case 3:
			cycle.Address = []int{0, 1365, 682, 65_535, len(sectorNumbers(f))}[r.IntN(5)]
		case 4:
			c = append(c, api.Cycle{Address: r.IntN(10), Data: 240})
		}
		c = append(c, cycle)
	}
	return c
}

// randomBlocks returns blocks that are valid; some follow each other without a gap.
func randomBlocks(r *rand.Rand, most int) []api.Block {
	var b []api.Block
	next := r.IntN(3)
	for range r.IntN(most + 1) {
		block := api.Block{Address: next, Bytes: make([]byte, 1+r.IntN(40))}
		for i := range block.Bytes {
			block.Bytes[i] = byte(r.IntN(256))
		}
		b = append(b, block)
		next += len(block.Bytes) + r.IntN(4)
	}
	return b
}

// randomCases calls do with a memory.
func randomCases(count int, do func(r *rand.Rand, f api.Flash)) {
	r := rand.New(rand.NewPCG(7, 1))
	for range count {
		do(r, randomFlash(r))
	}
}

// wantList reports a list or an error that is not the one that is wanted.
func wantList[T comparable](t *testing.T, name string, want ...T) func(got []T, e api.Errno) {
	return func(got []T, e api.Errno) {
		t.Helper()
		if e != api.OK || !slices.Equal(got, want) {
			t.Errorf("%s: %v %v, not %v", name, got, e, want)
		}
	}
}

func sameBlocks(x, y []api.Block) bool {
	return slices.EqualFunc(x, y, func(x, y api.Block) bool {
		return x.Address == y.Address && slices.Equal(x.Bytes, y.Bytes)
	})
}
