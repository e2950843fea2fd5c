package flash

import (
	"fmt"
	"math/rand/v2"
	"slices"
	"strings"
	"testing"

	"scanchain/api"
)

const lastRecord = ":00000001FF\n"

// written is the line of a record.
func written(kind, address int, bytes ...byte) string {
	sum := len(bytes) + address/256 + address + kind
	line := fmt.Sprintf(":%02X%04X%02X", len(bytes), address, kind)
	for _, next := range bytes {
		line += fmt.Sprintf("%02X", next)
		sum += int(next)
	}
	return line + fmt.Sprintf("%02X\n", (1_000*256-sum)%256)
}

func wantWritten(t *testing.T, name, want string, b ...api.Block) {
	t.Helper()
	if text, e := Write(b); e != api.OK || text != want {
		t.Errorf("%s: %q %v, not %q", name, text, e, want)
	}
}

func wantParsed(t *testing.T, name, text string, want ...api.Block) {
	t.Helper()
	if b, number, e := Parse(text); e != api.OK || number != 0 || !sameBlocks(b, want) {
		t.Errorf("%s: %v %d %v, not %v", name, b, number, e, want)
	}
}

func wantNotParsed(t *testing.T, name, text string, want api.Errno, wantNumber int) {
	t.Helper()
	if b, number, e := Parse(text); e != want || number != wantNumber || len(b) != 0 {
		t.Errorf("%s: %v %d %v, not %d %v", name, b, number, e, wantNumber, want)
	}
}

func rising(from, long int) []byte {
	var b []byte
	for i := range long {
		b = append(b, byte(from+i))
	}
	return b
}

func TestWrite(t *testing.T) {
	wantWritten(t, "no blocks", lastRecord)
	wantWritten(t, "the document's example", ":0100020001FC\n"+lastRecord, api.Block{Address: 2, Bytes: []byte{1}})
	wantWritten(t, "capital letters", ":031ABC00ABCDEFC0\n"+lastRecord, api.Block{Address: 0x1ABC, Bytes: []byte{0xAB, 0xCD, 0xEF}})
	wantWritten(t, "a checksum of 0", ":0100FF000000\n"+lastRecord, api.Block{Address: 255, Bytes: []byte{0}})
	wantWritten(t, "16 bytes", written(0, 7, rising(0, 16)...)+lastRecord, api.Block{Address: 7, Bytes: rising(0, 16)})
	wantWritten(t, "17 bytes", written(0, 7, rising(0, 16)...)+written(0, 23, 16)+lastRecord, api.Block{Address: 7, Bytes: rising(0, 17)})
	wantWritten(t, "several blocks", written(0, 0, 1, 2)+written(0, 2, rising(9, 16)...)+written(0, 18, rising(25, 16)...)+written(0, 8_191, 255)+lastRecord,
		api.Block{Address: 0, Bytes: []byte{1, 2}}, api.Block{Address: 2, Bytes: rising(9, 32)}, api.Block{Address: 8_191, Bytes: []byte{255}})
	all := ""
	for address := 0; address < 8_192; address += 16 {
		all += written(0, address, rising(address, 16)...)
	}
	wantWritten(t, "a whole image", all+lastRecord, api.Block{Bytes: rising(0, 8_192)})
}

func TestParse(t *testing.T) {
	wantParsed(t, "no blocks", lastRecord)
	wantParsed(t, "the document's example", ":0100020001FC\n"+lastRecord, api.Block{Address: 2, Bytes: []byte{1}})
	wantParsed(t, "records without a gap", written(0, 4, 1, 2)+written(0, 6, 3)+written(0, 7, 4)+lastRecord, api.Block{Address: 4, Bytes: []byte{1, 2, 3, 4}})
	wantParsed(t, "records with a gap", written(0, 4, 1, 2)+written(0, 7, 3)+lastRecord, api.Block{Address: 4, Bytes: []byte{1, 2}}, api.Block{Address: 7, Bytes: []byte{3}})
	wantParsed(t, "records in another order", written(0, 9, 9)+written(0, 0, 5)+written(0, 2, 7)+written(0, 1, 6)+lastRecord, api.Block{Bytes: []byte{5, 6, 7}}, api.Block{Address: 9, Bytes: []byte{9}})
	wantParsed(t, "255 bytes", written(0, 1, rising(0, 255)...)+lastRecord, api.Block{Address: 1, Bytes: rising(0, 255)})
	wantParsed(t, "the last byte", written(0, 8_191, 0)+lastRecord, api.Block{Address: 8_191, Bytes: []byte{0}})
	all := []string{lastRecord}
	for address := 0; address < 8_192; address += 8 {
		all = append(all, written(0, address, rising(address, 8)...))
	}
	slices.Reverse(all)
	wantParsed(t, "a whole image", strings.Join(all, ""), api.Block{Bytes: rising(0, 8_192)})
}

// merged is blocks of which none follows another without a gap.
func merged(b []api.Block) []api.Block {
	image := map[int]byte{}
	for _, block := range b {
		for i, next := range block.Bytes {
			image[block.Address+i] = next
		}
	}
	var blocks []api.Block
	for address := range api.MaxImage {
		next, is := image[address]
		if _, goesOn := image[address-1]; is && !goesOn {
			blocks = append(blocks, api.Block{Address: address})
		}
		if is {
			last := &blocks[len(blocks)-1]
			last.Bytes = append(last.Bytes, next)
		}
	}
	return blocks
}

func TestWhatIsWrittenIsParsed(t *testing.T) {
	r := rand.New(rand.NewPCG(7, 5))
	for range 300 {
		b := randomBlocks(r, 8)
		text, e := Write(b)
		if e != api.OK {
			t.Fatal(b, e)
		}
		wantParsed(t, "written", text, merged(b)...)
		lines := strings.SplitAfter(strings.TrimSuffix(text, lastRecord), "\n")
		r.Shuffle(len(lines), func(i, j int) { lines[i], lines[j] = lines[j], lines[i] })
		wantParsed(t, "in another order", strings.Join(lines, "")+lastRecord, merged(b)...)
	}
	for _, b := range [][]api.Block{blocksOfOne(1_000), {block(0, 8_192)}} {
		text, e := Write(b)
		if e != api.OK {
			t.Fatal(e)
		}
		wantParsed(t, "most", text, b...)
	}
}

func TestParseSyntax(t *testing.T) {
	good := written(0, 16, 1, 2)
	for _, line := range []string{
		"\n", ":\n", " \n", "0100020001FC\n", "::0100020001FC\n", " :0100020001FC\n", ":0100020001FC \n", ":0100020001FC\r\n", ":01 00020001FC\n",
		":0100020001fc\n", ":0100020001Fc\n", ":0100020001F\n", ":0100020001FG\n", ":010002000/FC\n", ":010002000:FC\n", ":010002000@FC\n", ":0\xc4\x80100020001F\n",
		":00\n", ":000000\n", ":00000000\n", ":000000FF\n", ":0100020001\n", ":0200020001FB\n", ":0000020001FD\n", ":010002000101FB\n", ":FF000200FF\n",
		written(0, 16), written(0, 0), written(1, 1), written(1, 256), written(1, 0, 0), written(1, 16, 7), written(2, 0), written(2, 0, 1), written(3, 0, 1), written(4, 0, 0, 0), written(255, 0, 1), written(16, 0, 1),
		":0000010100\n",
	} {
		wantNotParsed(t, line, line+lastRecord, api.ErrSyntax, 0)
		wantNotParsed(t, line, good+line+lastRecord, api.ErrSyntax, 1)
		wantNotParsed(t, line+": no last record", good+good+line, api.ErrSyntax, 2)
		wantNotParsed(t, line+": a later line", good+line+":0100020001FD\n", api.ErrSyntax, 1)
	}
	wantNotParsed(t, "a record that is not ended", ":0100020001FC", api.ErrSyntax, 0)
	wantNotParsed(t, "a last record that is not ended", good+":00000001FF", api.ErrSyntax, 1)
	wantNotParsed(t, "a line that is not ended, with a wrong checksum", good+":0100020001FD", api.ErrSyntax, 1)
	wantNotParsed(t, "more bytes than a record has", ":00"+strings.TrimPrefix(written(0, 0, rising(0, 255)...), ":FF")[:4+2+512]+"00\n", api.ErrSyntax, 0)
}

func TestParseSum(t *testing.T) {
	good := written(0, 16, 1, 2)
	for _, line := range []string{":0100020001FD\n", ":0100020001FB\n", ":010002000100\n", ":00000001FE\n", ":0000000100\n", ":0100020002FC\n", ":0100030001FC\n", ":0101020001FC\n"} {
		wantNotParsed(t, line, line+lastRecord, api.ErrSum, 0)
		wantNotParsed(t, line, good+line+"\n", api.ErrSum, 1)
		wantNotParsed(t, line+": no last record", good+good+line, api.ErrSum, 2)
	}
}

func TestParseState(t *testing.T) {
	good := written(0, 16, 1, 2)
	wantNotParsed(t, "no lines", "", api.ErrState, 0)
	wantNotParsed(t, "no last record", good, api.ErrState, 1)
	wantNotParsed(t, "no last record before a conflict", good+good+good, api.ErrState, 3)
	for _, line := range []string{good, lastRecord, "\n", "x\n", "x", ":0100020001FD\n", ":0100020001FC", ":00000001FF"} {
		wantNotParsed(t, line, lastRecord+line, api.ErrState, 1)
		wantNotParsed(t, line, good+good+lastRecord+line, api.ErrState, 3)
		wantNotParsed(t, line, good+lastRecord+line+"\n\n", api.ErrState, 2)
	}
}

func TestParseConflict(t *testing.T) {
	for _, lines := range [][]string{
		{written(0, 5, 1), written(0, 5, 1)},
		{written(0, 5, 1, 2), written(0, 6, 2)},
		{written(0, 6, 2), written(0, 5, 1, 2)},
		{written(0, 5, 1), written(0, 0, 0, 1, 2, 3, 4, 5)},
		{written(0, 0, 0, 1, 2, 3, 4, 5), written(0, 1, 1), written(0, 9, 9)},
		{written(0, 0, 0, 1), written(0, 2, 2, 3), written(0, 3, 3)},
		{written(0, 65_535, 1, 2), written(0, 65_535, 1)},
		{written(0, 9_000, 1, 2), written(0, 9_001, 1)},
	} {
		wantNotParsed(t, "conflict", strings.Join(lines, "")+lastRecord, api.ErrConflict, 0)
	}
	wantNotParsed(t, "addresses do not begin again", written(0, 0, 1)+written(0, 65_535, 1, 2)+lastRecord, api.ErrArg, 0)
}

func TestParseChecksBlocks(t *testing.T) {
	wantNotParsed(t, "an address", written(0, 8_192, 1)+lastRecord, api.ErrArg, 0)
	wantNotParsed(t, "the highest address", written(0, 65_535, 1)+lastRecord, api.ErrArg, 0)
	wantNotParsed(t, "a byte", written(0, 8_191, 1, 2)+lastRecord, api.ErrLarge, 0)
	wantNotParsed(t, "a record that goes on", written(0, 8_191, 1)+written(0, 8_192, 1)+lastRecord, api.ErrLarge, 0)
	var lines strings.Builder
	for i := range 1_000 {
		lines.WriteString(written(0, 2*i, byte(i)))
	}
	if b, number, e := Parse(lines.String() + lastRecord); e != api.OK || number != 0 || len(b) != 1_000 {
		t.Error(len(b), number, e)
	}
	wantNotParsed(t, "many blocks", lines.String()+written(0, 65_535, 1)+lastRecord, api.ErrLarge, 0)
	wantParsed(t, "many records of one block", manyRecords(1_001)+lastRecord, api.Block{Bytes: make([]byte, 1_001)})
}

func manyRecords(count int) string {
	var lines strings.Builder
	for i := range count {
		lines.WriteString(written(0, i, 0))
	}
	return lines.String()
}

func TestParseSize(t *testing.T) {
	most := strings.Repeat("x", 200_000)
	wantNotParsed(t, "as long as can be", most, api.ErrSyntax, 0)
	wantNotParsed(t, "longer", most+"x", api.ErrLarge, 0)
	wantNotParsed(t, "longer, after the last record", lastRecord+most, api.ErrLarge, 0)
	wantNotParsed(t, "after the last record", lastRecord+most[len(lastRecord):], api.ErrState, 1)
	hex := ":" + strings.Repeat("0", 199_998) + "\n"
	wantNotParsed(t, "one long record", hex, api.ErrSyntax, 0)
	wantNotParsed(t, "all at one address", strings.Repeat(written(0, 0, 7), (200_000-12)/14)+lastRecord, api.ErrConflict, 0)
}

// changed returns a text with a byte that is another one, left out or put in.
func changed(r *rand.Rand, text string) string {
	const bytes = "0123456789ABCDEFabf:\n \x00\x80"
	at, next := r.IntN(len(text)), bytes[r.IntN(len(bytes))]
	switch r.IntN(3) {
	case 0:
		return text[:at] + string(next) + text[at+1:]
	case 1:
		return text[:at] + text[at+1:]
	}
	return text[:at] + string(next) + text[at:]
}

func TestParseAcceptsNothingElse(t *testing.T) {
	r := rand.New(rand.NewPCG(7, 6))
	for range 3_000 {
		text, _ := Write(randomBlocks(r, 3))
		for range 1 + r.IntN(2) {
			text = changed(r, text)
		}
		b, number, e := Parse(text)
		if e != api.OK {
			if len(b) != 0 || number != 0 && !slices.Contains([]api.Errno{api.ErrSyntax, api.ErrSum, api.ErrState}, e) {
				t.Errorf("%q: %v %d %v", text, b, number, e)
			}
			continue
		}
		var again []string
		for _, block := range b {
			again = append(again, fmt.Sprint(block.Address, block.Bytes))
		}
		if want := plainParse(text); number != 0 || !slices.Equal(again, want) {
			t.Errorf("%q: %v %d, not %v", text, again, number, want)
		}
	}
}

// plainParse returns the blocks of a text that is accepted, each one printed; nil if a line is not what written makes of its bytes.
func plainParse(text string) []string {
	var b []api.Block
	for line := range strings.Lines(text) {
		var count, address, kind int
		if n, _ := fmt.Sscanf(line, ":%02X%04X%02X", &count, &address, &kind); n != 3 {
			return nil
		}
		var bytes []byte
		fmt.Sscanf(line[9:len(line)-3], "%X", &bytes)
		if written(kind, address, bytes...) != line || len(bytes) != count {
			return nil
		}
		if kind == 0 {
			b = append(b, api.Block{Address: address, Bytes: bytes})
		}
	}
	var again []string
	for _, block := range merged(b) {
		again = append(again, fmt.Sprint(block.Address, block.Bytes))
	}
	return again
}
