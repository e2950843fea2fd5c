package flash

import (
	"cmp"
	"slices"

	"scanchain/api"
	"scanchain/numbers"
)

const (
	mostBlocks = 1_000
	erasedByte = 255
)

// CheckBlocks says what is wrong with blocks.
func CheckBlocks(b []api.Block) api.Errno {
	if len(b) > mostBlocks {
		return api.ErrLarge
	}
	end := 0 // of the block before
	for _, block := range b {
		switch {
		case len(block.Bytes) == 0:
			return api.ErrNone
		case !numbers.AreWithin(0, api.MaxImage-1, block.Address):
			return api.ErrArg
		case endOf(block) > api.MaxImage:
			return api.ErrLarge
		case block.Address < end:
			return api.ErrOrder
		}
		end = endOf(block)
	}
	return api.OK
}

// endOf returns the address after the last byte of a block.
func endOf(b api.Block) int {
	return b.Address + len(b.Bytes)
}

// Words returns the words of a memory that has the bytes of blocks.
func Words(f api.Flash, b []api.Block) ([]int, api.Errno) {
	if e := cmp.Or(CheckFlash(f), CheckBlocks(b)); e != api.OK {
		return nil, e
	}
	image := slices.Repeat([]byte{erasedByte}, 2*longOf(f))
	for _, block := range b {
		if endOf(block) > len(image) {
			return nil, api.ErrFull
		}
		copy(image[block.Address:], block.Bytes)
	}
	var words []int
	for word := range slices.Chunk(image, 2) {
		words = append(words, int(word[0])<<8|int(word[1]))
	}
	return words, api.OK
}

// Crc returns the checksum of bytes.
func Crc(b []byte) (int, api.Errno) {
	if len(b) > api.MaxText {
		return 0, api.ErrLarge
	}
	sum := uint16(65_535)
	for _, next := range b {
		sum ^= uint16(next) << 8
		for range 8 {
			before := sum
			sum <<= 1
			if before >= 32_768 {
				sum ^= 4_129
			}
		}
	}
	return int(sum), api.OK
}
