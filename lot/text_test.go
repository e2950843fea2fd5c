package lot

import (
	"math/rand/v2"
	"strings"
	"testing"

	"scanchain/api"
)

func wantText(t *testing.T, l []api.Limit, r []api.Record, want string) {
	t.Helper()
	if text, e := Text(l, r); e != api.OK || text != want {
		t.Errorf("%q %v, not %q", text, e, want)
	}
	got, number, e := Read(l, want)
	if number != 0 {
		t.Error(want, number)
	}
	wantRecords(t, want, r...)(got, e)
}

func TestText(t *testing.T) {
	wantText(t, two(), nil, "")
	wantText(t, two(), four()[2:], "u3 3 s2 11\nu2 4 s2 8 4\n")
	wantText(t, two(), []api.Record{record("a-b_c", 0, "x", 0, -1), record("b", 345_686_399_999, "y9", -100_000)}, "a-b_c 0 x 0 -1\nb 345686399999 y9 -100000\n")
	randomCases(200, func(_ *rand.Rand, l []api.Limit, r []api.Record) { wantText(t, l, r, plainText(r)) })
}

func wantNotRead(t *testing.T, name, text string, want api.Errno, wantNumber int) {
	t.Helper()
	if r, number, e := Read(two(), text); e != want || number != wantNumber || len(r) != 0 {
		t.Errorf("%s: %v %d %v, not %d %v", name, r, number, e, wantNumber, want)
	}
}

func TestReadSyntax(t *testing.T) {
	for _, line := range []string{
		"", " ", "u", "u 1", "u 1 s", "u 1 s ", "u  1 s 11", "u 1  s 11", "u 1 s  11", " u 1 s 11", "u 1 s 11 ", "u 1 s 7 3 ", "u 1 s 7  3",
		"u x s 11", "u 01 s 11", "u +1 s 11", "u -0 s 11", "u 1.0 s 11", "u 1000000000000000 s 11", "u - s 11",
		"u 1 s x", "u 1 s 011", "u 1 s +11", "u 1 s -0", "u 1 s 7 x", "u 1 s 7 03", "u 1 s 7 -0", "u 1 s 7 1000000000000000", "u 1 s 7 -1000000000000000", "u 1 s 11\r", "u 1\ts 11", "1 u s 11",
	} {
		wantNotRead(t, line, line+"\n", api.ErrSyntax, 0)
		wantNotRead(t, line, "a 1 s 11\nb 2 s 7 3\n"+line+"\nc 3 s 11\n", api.ErrSyntax, 2)
		wantNotRead(t, line+" before another line", "a 1 s 11\n"+line+"\nx\n", api.ErrSyntax, 1)
		wantNotRead(t, line+" after a record that is wrong", "B 1 s 11\n"+line+"\n", api.ErrSyntax, 1)
	}
	wantNotRead(t, "a line that is not ended", "a 1 s 11", api.ErrSyntax, 0)
	wantNotRead(t, "a line that is not ended", "a 1 s 11\nb 2 s 7 3", api.ErrSyntax, 1)
}

func TestReadChecksRecords(t *testing.T) {
	for text, want := range map[string]api.Errno{
		"U 1 s 11\n":                       api.ErrName,
		"u 1 1 11\n":                       api.ErrName,
		"u -1 s 11\n":                      api.ErrArg,
		"u 345686400000 s 11\n":            api.ErrArg,
		"u 999999999999999 s 11\n":         api.ErrArg,
		"u 1 s 100001\n":                   api.ErrArg,
		"u 1 s -999999999999999\n":         api.ErrArg,
		"u 1 s 7\n":                        api.ErrForm,
		"u 1 s 7 3 3\n":                    api.ErrForm,
		"u 1 s 11\nu 1 s 11\n":             api.ErrOrder,
		"u 1 s 11\nt 1 s 11\n":             api.ErrOrder,
		strings.Repeat("u 0 s 11\n", 5001): api.ErrLarge,
	} {
		wantNotRead(t, text[:min(len(text), 30)], text, want, 0)
	}
}

// long returns 1,000 records of 200 bytes each.
func long() ([]api.Limit, []api.Record) {
	var r []api.Record
	for i := range 1_000 {
		r = append(r, record("u", 100_000+i, "s", append(make([]int, 93), -1)...))
	}
	return many(100), r
}

func TestTextSize(t *testing.T) {
	l, most := long()
	text, e := Text(l, most)
	if e != api.OK || len(text) != 200_000 || text != plainText(most) {
		t.Fatal(len(text), e)
	}
	r, number, e := Read(l, text)
	if number != 0 {
		t.Error(number)
	}
	wantRecords(t, "most", most...)(r, e)
	_, more := long()
	more[999].Results[93] = -10
	if size := len(plainText(more)); size != 200_001 {
		t.Fatal(size)
	}
	if text, e := Text(l, more); e != api.ErrLarge || text != "" {
		t.Error(len(text), e)
	}
	for _, text := range []string{plainText(more), strings.Repeat("x", 200_001), text + "\n"} {
		if r, number, e := Read(l, text); e != api.ErrLarge || number != 0 || len(r) != 0 {
			t.Error(len(r), number, e)
		}
	}
	if r, number, e := Read(l, strings.Repeat("\n", 200_000)); e != api.ErrSyntax || number != 0 || len(r) != 0 {
		t.Error(len(r), number, e)
	}
	full := manyRecords(5_000)
	wantText(t, many(1), full, plainText(full))
}
