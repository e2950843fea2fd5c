package pattern

import (
	"strings"
	"testing"

	"scanchain/api"
)

func wantSame(t *testing.T, v []string) {
	t.Helper()
	text, e := Text(v)
	if e != api.OK {
		t.Fatal(v, e)
	}
	again, number, e := Read(text)
	if number != 0 {
		t.Error(number)
	}
	wantList(t, "read", v...)(again, e)
}

func TestText(t *testing.T) {
	for text, v := range map[string][]string{
		"":                   nil,
		"0\n":                {"0"},
		"01\n11\n01\n":       {"01", "11", "01"},
		"0011\n0101\n0001\n": {"0011", "0101", "0001"},
	} {
		if got, e := Text(v); e != api.OK || got != text {
			t.Errorf("%q: %q %v", v, got, e)
		}
		wantSame(t, v)
	}
	wantSame(t, zeros(100, 200))
	randomVectors(200, 9, 9, func(_ int, v []string) { wantSame(t, v) })
	for _, goal := range goals {
		v, _ := Generate(100, goal)
		wantSame(t, v)
	}
}

// badLines are vectors that cannot be written. Those whose lines are bit strings cannot be read either, with the same errors.
var badLines = []struct {
	name string
	v    []string
	want api.Errno
	read bool
}{
	{"many", zeros(1, 201), api.ErrLarge, true},
	{"their number before their form", append([]string{"00"}, zeros(1, 200)...), api.ErrLarge, true},
	{"their number before an empty one", zeros(0, 201), api.ErrLarge, false},
	{"empty", []string{""}, api.ErrNone, false},
	{"an empty one later", []string{"0", ""}, api.ErrNone, false},
	{"long", zeros(101, 1), api.ErrLarge, true},
	{"a long one later", []string{"0", strings.Repeat("0", 101)}, api.ErrLarge, true},
	{"long before syntax", []string{strings.Repeat("x", 101)}, api.ErrLarge, false},
	{"shorter", []string{"00", "0"}, api.ErrForm, true},
	{"longer", []string{"00", "00", "000"}, api.ErrForm, true},
	{"form before syntax", []string{"00", "x"}, api.ErrForm, false},
	{"form of the second before length of the third", append([]string{"00", "0"}, zeros(101, 1)...), api.ErrForm, true},
	{"length of the second before form of the third", []string{"00", strings.Repeat("0", 101), "0"}, api.ErrLarge, true},
	{"no bits", []string{"2"}, api.ErrSyntax, false},
	{"no bits later", []string{"00", "0x"}, api.ErrSyntax, false},
	{"syntax of the first before form of the second", []string{"0x", "0"}, api.ErrSyntax, false},
	{"blank", []string{"0 "}, api.ErrSyntax, false},
	{"line feed", []string{"0\n"}, api.ErrSyntax, false},
}

func TestTextErrors(t *testing.T) {
	for _, c := range badLines {
		if text, e := Text(c.v); e != c.want || text != "" {
			t.Errorf("%s: %q %v, not %v", c.name, text, e, c.want)
		}
		if !c.read {
			continue
		}
		if v, number, e := Read(strings.Join(c.v, "\n") + "\n"); e != c.want || number != 0 || len(v) != 0 {
			t.Errorf("%s: %q %d %v, not %v", c.name, v, number, e, c.want)
		}
	}
}

func TestReadSyntax(t *testing.T) {
	for text, want := range map[string]int{
		"\n":                             0,
		"2\n":                            0,
		"x":                              0,
		"0":                              0,
		" \n":                            0,
		"0 \n":                           0,
		" 0\n":                           0,
		"0\r\n":                          0,
		"-0\n":                           0,
		"\n\n":                           0,
		"0\n\n":                          1,
		"0\n\n0\n":                       1,
		"0\n1":                           1,
		"0\n1\n2":                        2,
		"01\n10\n0x\n\n":                 2,
		"0\n00\n2\n":                     2,
		strings.Repeat("0\n", 300) + "2": 300,
		strings.Repeat("0", 500) + "\n2": 1,
	} {
		if v, number, e := Read(text); e != api.ErrSyntax || number != want || len(v) != 0 {
			t.Errorf("%.20q: %q %d %v", text, v, number, e)
		}
	}
}

func TestReadSize(t *testing.T) {
	for text, want := range map[string]api.Errno{
		strings.Repeat("0\n", api.MaxText/2):         api.ErrLarge,
		strings.Repeat("0\n", api.MaxText/2) + "x":   api.ErrLarge,
		strings.Repeat("0", api.MaxText-1) + "\n":    api.ErrLarge,
		strings.Repeat("0", api.MaxText):             api.ErrSyntax,
		strings.Repeat("x", api.MaxText+1):           api.ErrLarge,
		strings.Repeat("0\n", api.MaxText/2-1) + "x": api.ErrSyntax,
	} {
		number := 0
		if want == api.ErrSyntax {
			number = strings.Count(text, "\n")
		}
		if v, got, e := Read(text); e != want || got != number || len(v) != 0 {
			t.Errorf("%d bytes: %d %v, not %v", len(text), got, e, want)
		}
	}
}
