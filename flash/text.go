package flash

import (
	"cmp"
	"slices"
	"strings"

	"scanchain/api"
	"scanchain/words"
)

const (
	digits     = "0123456789ABCDEF"
	longRecord = 16 // bytes of a record that is written
	kindData   = 0
	kindEnd    = 1
	around     = 5 // bytes of a record besides those of its block: their number, the address, the kind, the checksum
)

// Write writes blocks as records.
func Write(b []api.Block) (string, api.Errno) {
	if e := CheckBlocks(b); e != api.OK {
		return "", e
	}
	return words.Write(func(line func(...string)) {
		for _, block := range b {
			address := block.Address
			for bytes := range slices.Chunk(block.Bytes, longRecord) {
				line(recordOf(kindData, api.Block{Address: address, Bytes: bytes}))
				address += len(bytes)
			}
		}
		line(recordOf(kindEnd, api.Block{}))
	})
}

func recordOf(kind byte, b api.Block) string {
	record := []byte{byte(len(b.Bytes)), byte(b.Address >> 8), byte(b.Address), kind}
	record = append(record, b.Bytes...)
	record = append(record, -sumOf(record))
	text := []byte{':'}
	for _, next := range record {
		text = append(text, digits[next>>4], digits[next&15])
	}
	return string(text)
}

// sumOf returns the sum of bytes modulo 256.
func sumOf(bytes []byte) byte {
	var sum byte
	for _, next := range bytes {
		sum += next
	}
	return sum
}

// Parse reads records, and returns blocks.
func Parse(text string) ([]api.Block, int, api.Errno) {
	if len(text) > api.MaxText {
		return nil, 0, api.ErrLarge
	}
	records, number, e := readRecords(text)
	if e != api.OK {
		return nil, number, e
	}
	blocks, is := joined(records)
	if !is {
		return nil, 0, api.ErrConflict
	}
	if e := CheckBlocks(blocks); e != api.OK {
		return nil, 0, e
	}
	return blocks, 0, api.OK
}

// readRecords returns the records with bytes; with an error, the number of its line.
func readRecords(text string) ([]api.Block, int, api.Errno) {
	var records []api.Block
	isEnded := false
	wrong := api.ErrSyntax // what a line that is not ended by a line feed is
	number, good := words.Lines(text, func(line string) bool {
		if isEnded {
			return false
		}
		kind, record, e := readRecord(line)
		if e != api.OK {
			wrong = e
			return false
		}
		isEnded = kind == kindEnd
		if !isEnded {
			records = append(records, record)
		}
		return true
	})
	switch {
	case !good && isEnded:
		return nil, number, api.ErrState
	case !good:
		return nil, number, wrong
	case !isEnded:
		return nil, strings.Count(text, "\n"), api.ErrState
	}
	return records, 0, api.OK
}

// readRecord returns the kind of a record, and its bytes at their address.
func readRecord(line string) (byte, api.Block, api.Errno) {
	record, is := bytesOf(line)
	if !is || len(record) < around {
		return 0, api.Block{}, api.ErrSyntax
	}
	b := api.Block{Address: int(record[1])<<8 | int(record[2]), Bytes: record[4 : len(record)-1]}
	kind, long := record[3], len(b.Bytes)
	isData := kind == kindData && long > 0
	isEnd := kind == kindEnd && long == 0 && b.Address == 0
	switch {
	case int(record[0]) != long, !isData && !isEnd:
		return 0, api.Block{}, api.ErrSyntax
	case sumOf(record) != 0:
		return 0, api.Block{}, api.ErrSum
	}
	return kind, b, api.OK
}

// bytesOf returns the bytes of a line, and true; false if it is not a colon and two digits for each byte.
func bytesOf(line string) ([]byte, bool) {
	text, is := strings.CutPrefix(line, ":")
	if !is || len(text)%2 != 0 || strings.Trim(text, digits) != "" {
		return nil, false
	}
	var bytes []byte
	for ; text != ""; text = text[2:] {
		bytes = append(bytes, byte(strings.IndexByte(digits, text[0])<<4|strings.IndexByte(digits, text[1])))
	}
	return bytes, true
}

// joined returns the blocks that records are, and true; false if two of them have a byte at the same address.
func joined(records []api.Block) ([]api.Block, bool) {
	slices.SortFunc(records, func(x, y api.Block) int {
		return cmp.Compare(x.Address, y.Address)
	})
	var blocks []api.Block
	end := -1 // of the last block
	for _, record := range records {
		switch last := len(blocks) - 1; {
		case record.Address < end:
			return nil, false
		case record.Address == end:
			blocks[last].Bytes = append(blocks[last].Bytes, record.Bytes...)
		default:
			blocks = append(blocks, record)
		}
		end = endOf(record)
	}
	return blocks, true
}
