package station

import (
	"fmt"
	"math/rand/v2"
	"slices"
	"strings"
	"testing"

	"scanchain/api"
)

func wantText(t *testing.T, l []api.Entry, want string) {
	t.Helper()
	wantValue(t, "text", want, api.OK)(Text(l))
	got, number, e := Read(want)
	if e != api.OK || number != 0 || !slices.Equal(got, l) {
		t.Errorf("%q: %v %d %v, not %v", want, got, number, e, l)
	}
}

func TestText(t *testing.T) {
	wantText(t, nil, "")
	wantText(t, []api.Entry{
		entry("a", 1, 0, api.EntryEnter, "b1"), start("a", 2, 1, "b1", "scan"), entry("a", 3, 2, api.EntryFail, "b1"),
		entry("a", 4, 3, api.EntryRepair, "b1"), start("a-b_c", 1_000_000, 4, "b1", "burn-in"), entry("a-b_c", 999_999, 5, api.EntryPass, "b1"),
		entry("z9", 1, 6, api.EntryScrap, "b1"), undo("z9", 2, api.End-1, "a", 1_000_000),
	}, "a 1 0 enter b1\na 2 1 start b1 scan\na 3 2 fail b1\na 4 3 repair b1\na-b_c 1000000 4 start b1 burn-in\na-b_c 999999 5 pass b1\nz9 1 6 scrap b1\nz9 2 345686399999 undo a 1000000\n")
	wantText(t, []api.Entry{start("start", 1, 1, "pass", "undo"), undo("undo", 1, 1, "enter", 1)}, "start 1 1 start pass undo\nundo 1 1 undo enter 1\n")
	wantText(t, failing(), plainText(failing()))
	randomCases(200, func(_ *rand.Rand, _ api.Flow, l []api.Entry, _ int) { wantText(t, l, plainText(l)) })
}

func wantNotRead(t *testing.T, name, text string, want api.Errno, wantNumber int) {
	t.Helper()
	if l, number, e := Read(text); e != want || number != wantNumber || len(l) != 0 {
		t.Errorf("%s: %v %d %v, not %d %v", name, l, number, e, wantNumber, want)
	}
}

func TestReadSyntax(t *testing.T) {
	for _, line := range []string{
		"", " ", "a", "a 1", "a 1 2", "a 1 2 enter", "a 1 2 enter ", "a 1 2 enter b c", "a 1 2 enter b 1", "a 1 2  enter b", "a  1 2 enter b", " a 1 2 enter b", "a 1 2 enter b ", "a\t1 2 enter b",
		"a 1 2 Enter b", "a 1 2 enters b", "a 1 2 1 b", "a 1 2 leave b", "a 1 2 - b", "enter a 1 2 b", "1 2 enter a b",
		"a x 2 enter b", "a 01 2 enter b", "a +1 2 enter b", "a -0 2 enter b", "a 1.0 2 enter b", "a 1000000000000000 2 enter b", "a - 2 enter b",
		"a 1 x enter b", "a 1 02 enter b", "a 1 +2 enter b", "a 1 -0 enter b", "a 1 1000000000000000 enter b", "a 1 -1000000000000000 enter b",
		"a 1 2 start b", "a 1 2 start b ", "a 1 2 start  b", "a 1 2 start b scan flash", "a 1 2 start b scan ", "a 1 2 start",
		"a 1 2 pass", "a 1 2 pass b scan", "a 1 2 fail", "a 1 2 fail b scan", "a 1 2 repair", "a 1 2 repair b scan", "a 1 2 scrap", "a 1 2 scrap b scan",
		"a 1 2 undo", "a 1 2 undo b", "a 1 2 undo b x", "a 1 2 undo b 01", "a 1 2 undo b +1", "a 1 2 undo b -0", "a 1 2 undo b 1000000000000000", "a 1 2 undo b 1 1", "a 1 2 undo b ", "a 1 2 undo 1 b", "a 1 2 undo b 1 ",
	} {
		wantNotRead(t, line, line+"\n", api.ErrSyntax, 0)
		wantNotRead(t, line, "a 1 1 enter b\na 2 3 scrap b\n"+line+"\na 3 4 pass b\n", api.ErrSyntax, 2)
		wantNotRead(t, line+" before another line", "a 1 1 enter b\n"+line+"\nx\n", api.ErrSyntax, 1)
		wantNotRead(t, line+" after an entry that is wrong", "A 1 1 enter b\n"+line+"\n", api.ErrSyntax, 1)
	}
	wantNotRead(t, "a line that is not ended", "a 1 1 enter b", api.ErrSyntax, 0)
	wantNotRead(t, "a line that is not ended", "a 1 1 enter b\na 2 2 scrap b", api.ErrSyntax, 1)
}

func TestReadChecksEntries(t *testing.T) {
	for text, want := range map[string]api.Errno{
		"A 1 1 enter b\n":                       api.ErrName,
		"a 1 1 enter b\r\n":                     api.ErrName,
		"a 0 1 enter b\n":                       api.ErrArg,
		"a -1 1 enter b\n":                      api.ErrArg,
		"a 1000001 1 enter b\n":                 api.ErrArg,
		"a 999999999999999 1 enter b\n":         api.ErrArg,
		"a 1 -1 enter b\n":                      api.ErrArg,
		"a 1 345686400000 enter b\n":            api.ErrArg,
		"a 1 -999999999999999 enter b\n":        api.ErrArg,
		"a 1 1 enter -\n":                       api.ErrName,
		"a 1 1 start b 1\n":                     api.ErrName,
		"a 1 1 start 1 b\n":                     api.ErrName,
		"a 1 1 undo 1 1\n":                      api.ErrName,
		"a 1 1 undo b 0\n":                      api.ErrArg,
		"a 1 1 undo b -1\n":                     api.ErrArg,
		"a 1 1 undo b 999999999999999\n":        api.ErrArg,
		"a 1 1 enter b\na 1 1 enter b\n":        api.ErrOrder,
		"a 1 2 enter b\na 2 1 enter b\n":        api.ErrOrder,
		"a 1 1 enter b\na 1 2 enter b\n":        api.ErrTwice,
		strings.Repeat("a 1 1 pass b\n", 2_001): api.ErrLarge,
	} {
		wantNotRead(t, text[:min(len(text), 40)], text, want, 0)
	}
}

// wide returns 2,000 entries with lines of 100 bytes each.
func wide() []api.Entry {
	var l []api.Entry
	for i := range 2_000 {
		l = append(l, start("s", 100_000+i, 100_000+i, strings.Repeat("b", 40), strings.Repeat("c", 36)))
	}
	return l
}

func TestTextSize(t *testing.T) {
	most := wide()
	text := plainText(most)
	if len(text) != 200_000 {
		t.Fatal(len(text))
	}
	wantText(t, most, text)
	more := wide()
	more[1_999].Step += "c"
	if text, e := Text(more); e != api.ErrLarge || text != "" {
		t.Error(len(text), e)
	}
	for i := range more {
		more[i].Site, more[i].Step = long[1:], long[1:]
	}
	if text, e := Text(more); e != api.ErrLarge || text != "" {
		t.Error("the most there can be", len(text), e)
	}
	more[0].Site = ""
	if text, e := Text(more); e != api.ErrName || text != "" {
		t.Error("a name before the size", len(text), e)
	}
	for _, text := range []string{text + "\n", text + "x", strings.Repeat("x", 200_001)} {
		wantNotRead(t, "large", text, api.ErrLarge, 0)
	}
	wantNotRead(t, "lines", strings.Repeat("\n", 200_000), api.ErrSyntax, 0)
	wantNotRead(t, "a line", strings.Repeat("x", 200_000), api.ErrSyntax, 0)
	wantText(t, enters(2_000), plainText(enters(2_000)))
}

func TestWrittenTextIsReadByOthers(t *testing.T) {
	l := failing()
	for cut := range len(l) + 1 {
		first, _ := Text(l[:cut])
		rest, _ := Text(l[cut:])
		a, _, _ := Read(first)
		b, _, _ := Read(rest)
		wantList(t, fmt.Sprint(cut), l...)(Merge(b, a))
		wantList(t, fmt.Sprint(cut), l...)(Merge(a, b))
	}
}
