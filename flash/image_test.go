package flash

import (
	"math"
	"math/rand/v2"
	"slices"
	"testing"

	"scanchain/api"
)

func block(address, long int) api.Block {
	return api.Block{Address: address, Bytes: make([]byte, long)}
}

// blocksOfOne returns blocks of one byte, with a gap between.
func blocksOfOne(count int) []api.Block {
	var b []api.Block
	for i := range count {
		b = append(b, block(2*i, 1))
	}
	return b
}

var badBlocks = []struct {
	name string
	want api.Errno
	b    []api.Block
}{
	{"many", api.ErrLarge, blocksOfOne(1_001)},
	{"many before a bad one", api.ErrLarge, make([]api.Block, 1_001)},
	{"no bytes", api.ErrNone, []api.Block{block(0, 1), block(1, 0)}},
	{"no bytes before an address", api.ErrNone, []api.Block{block(-1, 0)}},
	{"an address below", api.ErrArg, []api.Block{block(-1, 1)}},
	{"an address above", api.ErrArg, []api.Block{block(0, 1), block(8_192, 1)}},
	{"an address above before many bytes", api.ErrArg, []api.Block{block(8_192, 8_193)}},
	{"the least address", api.ErrArg, []api.Block{block(math.MinInt, 1)}},
	{"the most", api.ErrArg, []api.Block{block(math.MaxInt, 1)}},
	{"many bytes", api.ErrLarge, []api.Block{block(0, 8_193)}},
	{"a byte too high", api.ErrLarge, []api.Block{block(8_191, 2)}},
	{"a byte too high before the order", api.ErrLarge, []api.Block{block(9, 1), block(8, 8_185)}},
	{"order", api.ErrOrder, []api.Block{block(9, 1), block(8, 1)}},
	{"the same address", api.ErrOrder, []api.Block{block(9, 1), block(9, 1)}},
	{"over each other", api.ErrOrder, []api.Block{block(9, 3), block(11, 1)}},
	{"order before a later one", api.ErrOrder, []api.Block{block(9, 1), block(8, 1), block(0, 0)}},
}

func TestCheckBlocks(t *testing.T) {
	for _, b := range [][]api.Block{nil, {block(0, 8_192)}, {block(8_191, 1)}, {block(0, 3), block(3, 1), block(7, 8_185)}, blocksOfOne(1_000)} {
		if e := CheckBlocks(b); e != api.OK {
			t.Error(len(b), e)
		}
	}
	for _, c := range badBlocks {
		if e := CheckBlocks(c.b); e != c.want {
			t.Errorf("%s: %v, not %v", c.name, e, c.want)
		}
		if words, e := Words(flashOf(4_096), c.b); e != c.want || len(words) != 0 {
			t.Errorf("%s: %v %v, not %v", c.name, words, e, c.want)
		}
		if text, e := Write(c.b); e != c.want || text != "" {
			t.Errorf("%s: %q %v, not %v", c.name, text, e, c.want)
		}
	}
}

func TestWords(t *testing.T) {
	wantList(t, "no blocks", slices.Repeat([]int{65_535}, 6)...)(Words(three(), nil))
	wantList(t, "the high byte first", 0x0102, 0x03FF, 65_535, 65_535, 65_535, 65_535)(Words(three(), []api.Block{{Address: 0, Bytes: []byte{1, 2, 3}}}))
	wantList(t, "from the low byte on", 65_535, 0xFF01, 0x02FF, 65_535, 0xFF00, 0xFE80)(Words(three(), []api.Block{{Address: 3, Bytes: []byte{1, 2}}, {Address: 9, Bytes: []byte{0, 254, 128}}}))
	wantList(t, "without gaps", 0x0001, 0x0203, 65_535, 65_535, 65_535, 65_535)(Words(three(), []api.Block{{Address: 0, Bytes: []byte{0}}, {Address: 1, Bytes: []byte{1, 2}}, {Address: 3, Bytes: []byte{3}}}))
	wantList(t, "the whole image", make([]int, 4_096)...)(Words(flashOf(4_096), []api.Block{block(0, 8_192)}))
	for _, b := range [][]api.Block{{block(12, 1)}, {block(11, 2)}, {block(0, 13)}, {block(0, 1), block(8_191, 1)}} {
		if words, e := Words(three(), b); e != api.ErrFull || len(words) != 0 {
			t.Error(b, words, e)
		}
	}
	if words, e := Words(three(), []api.Block{block(12, 1), block(0, 1)}); e != api.ErrOrder || len(words) != 0 {
		t.Error("blocks before the memory's end", words, e)
	}
	randomCases(200, func(r *rand.Rand, f api.Flash) {
		b := randomBlocks(r, 5)
		image := slices.Repeat([]byte{255}, api.MaxImage)
		for _, block := range b {
			copy(image[block.Address:], block.Bytes)
		}
		words, e := Words(flashOf(4_096), b)
		if e != api.OK || len(words) != 4_096 {
			t.Fatal(len(words), e)
		}
		for a, word := range words {
			if word != 256*int(image[2*a])+int(image[2*a+1]) {
				t.Error(b, a, word)
			}
		}
	})
}

// bitSum is the checksum, as the remainder of a division of polynomials, bit by bit.
func bitSum(b []byte) int {
	sum := 65_535
	for _, next := range b {
		for bit := 7; bit >= 0; bit-- {
			isOdd := sum>>15&1 != int(next>>bit&1)
			sum = 2 * sum % 65_536
			if isOdd {
				sum ^= 4_129
			}
		}
	}
	return sum
}

func TestCrc(t *testing.T) {
	for text, want := range map[string]int{"": 65_535, "123456789": 10_673, "A": 0xB915, "\x00": 0xE1F0, "\xff": 0xFF00, "\xff\xff": 0} {
		if n, e := Crc([]byte(text)); e != api.OK || n != want {
			t.Errorf("%q: %#x %v", text, n, e)
		}
	}
	r := rand.New(rand.NewPCG(7, 4))
	for long := range 100 {
		b := make([]byte, long)
		for i := range b {
			b[i] = byte(r.IntN(256))
		}
		if n, e := Crc(b); e != api.OK || n != bitSum(b) {
			t.Error(b, n, e)
		}
	}
	most := make([]byte, 200_000)
	if n, e := Crc(most); e != api.OK || n != bitSum(most) {
		t.Error(n, e)
	}
	if n, e := Crc(append(most, 0)); e != api.ErrLarge || n != 0 {
		t.Error(n, e)
	}
}
