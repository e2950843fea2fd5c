package diagnose

import (
	"slices"
	"strings"
	"testing"

	"scanchain/api"
)

func wantSame(t *testing.T, d api.Dictionary) {
	t.Helper()
	text, e := Text(d)
	if e != api.OK {
		t.Fatal(e)
	}
	again, number, e := Read(text)
	if e != api.OK || number != 0 || !sameDictionaries(again, d) {
		t.Errorf("%.80q: %v %d", text, e, number)
	}
}

func TestText(t *testing.T) {
	d := dictionary("0 ok !", "a 1 ok ~", "good 0 x-y,z 9", "x_1-2 good a \"b\"")
	if got, e := Text(d); e != api.OK || got != "good 0 ok !\na 1 ok ~\ngood 0 x-y,z 9\nx_1-2 good a \"b\"\n" {
		t.Errorf("%q %v", got, e)
	}
	wantSame(t, d)
	if got, e := Text(dictionary("0")); e != api.OK || got != "good 0\n" {
		t.Errorf("%q %v", got, e)
	}
	wantSame(t, dictionary("0"))
	wantSame(t, sized(100, 0))
	wantSame(t, sized(1, 300))
	randomCases(200, 6, 9, func(d api.Dictionary, _ []int, _ []api.Seen) { wantSame(t, d) })
}

func TestTextSize(t *testing.T) {
	// 20 lines with 99 responses of 100 bytes have 10,000 bytes each, with a first word of 4 bytes and one of a byte.
	long := slices.Repeat([]string{strings.Repeat("x", 100)}, 99)
	long[98] = strings.Repeat("x", 100-4)
	d := api.Dictionary{Good: long}
	for i := range 19 {
		d.Rows = append(d.Rows, api.Row{Fault: "foo" + string(rune('a'+i)), Responses: long})
	}
	text, e := Text(d)
	if e != api.OK || len(text) != api.MaxText {
		t.Fatal(len(text), e)
	}
	wantSame(t, d)
	d.Rows[18].Fault += "x"
	if text, e := Text(d); e != api.ErrLarge || text != "" {
		t.Error(len(text), e)
	}
	d.Rows[18].Fault = "a"
	if text, e := Text(d); e != api.ErrOrder || text != "" {
		t.Error(len(text), e)
	}
	if d, number, e := Read(text[:len(text)-1] + "x\n"); e != api.ErrLarge || number != 0 || !isZero(d) {
		t.Error(number, e)
	}
}

func TestReadSyntax(t *testing.T) {
	for text, want := range map[string]int{
		"":                             0,
		"\n":                           0,
		"good":                         0,
		"good 0":                       0,
		" good 0\n":                    0,
		"good \n":                      0,
		"good  0\n":                    0,
		"good 0 \n":                    0,
		"Good 0\n":                     0,
		"goods 0\n":                    0,
		"goo 0\n":                      0,
		"a 0\n":                        0,
		"0 good\n":                     0,
		"a 0\ngood 0\n":                0,
		"\ngood 0\n":                   0,
		"good\t0\n":                    0,
		"good\r\n":                     0,
		"good 0\n\n":                   1,
		"good 0\na 0":                  1,
		"good 0\na  0\n":               1,
		"good 0\na 0 \n":               1,
		"good 0\n a 0\n":               1,
		"good 0\na 0\n\nb":             2,
		"good\na\nB \x00\n\n":          3,
		"good 0\nb 0\na 0\nA\n c\nd\n": 4,
	} {
		if d, number, e := Read(text); e != api.ErrSyntax || number != want || !isZero(d) {
			t.Errorf("%q: %v %d %v", text, d, number, e)
		}
	}
}

func TestReadErrors(t *testing.T) {
	for text, want := range map[string]api.Errno{
		"good\n":      api.ErrNone,
		"good\na 0\n": api.ErrNone,
		"good" + strings.Repeat(" 0", 101) + "\n": api.ErrLarge,
		"good 0\n" + strings.Repeat("a 0\n", 301): api.ErrLarge,
		"good 0\n" + strings.Repeat("a 0\n", 300): api.ErrOrder,
		"good 0\x00\n":    api.ErrSyntax,
		"good 0\r\n":      api.ErrSyntax,
		"good 0\na 0\t\n": api.ErrSyntax,
		"good " + strings.Repeat("0", 101) + "\n": api.ErrSyntax,
		"good 0\nA 0\n":                       api.ErrName,
		"good 0\n0\n":                         api.ErrName,
		"good 0\na\t0\n":                      api.ErrName,
		"good 0\na\n":                         api.ErrForm,
		"good 0\na 0 0\n":                     api.ErrForm,
		"good 0\nb 0\na 0\n":                  api.ErrOrder,
		"good 0\ngood 0\ngood 0\n":            api.ErrOrder,
		strings.Repeat("x", api.MaxText+1):    api.ErrLarge,
		"good" + strings.Repeat(" 0", 99_998): api.ErrSyntax,
	} {
		d, number, e := Read(text)
		if e != want || number != 0 || !isZero(d) {
			t.Errorf("%.40q: %d %v, not %v", text, number, e, want)
		}
	}
}

func TestReadTakesOnlyWhatTextWrites(t *testing.T) {
	for _, text := range []string{"good 0\n", "good 0\ngood 1\n", "good x y\na x y\nb_-9 ! ~\n"} {
		d, _, e := Read(text)
		if again, _ := Text(d); e != api.OK || again != text {
			t.Errorf("%q %q %v", text, again, e)
		}
	}
}
