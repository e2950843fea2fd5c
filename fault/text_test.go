package fault

import (
	"slices"
	"strings"
	"testing"

	"scanchain/api"
)

func wantSame(t *testing.T, nets int, f []api.Fault) {
	t.Helper()
	text, e := Text(f)
	if e != api.OK {
		t.Fatal(f, e)
	}
	again, number, e := Read(nets, text)
	if number != 0 {
		t.Error(number)
	}
	wantFaults(t, "read", f...)(again, e)
}

func TestText(t *testing.T) {
	f := []api.Fault{
		fault(api.FaultStuck0, 0), fault(api.FaultStuck1, 10), fault(api.FaultAnd, 0, 1), fault(api.FaultOr, 2, 30, 99),
		fault(api.FaultFirst, 7, 1, 2, 3, 4, 5), fault(api.FaultOpen, 99), fault(api.FaultStuck0, 0),
	}
	text := "stuck0 0\nstuck1 10\nand 0 1\nor 2 30 99\nfirst 7 1 2 3 4 5\nopen 99\nstuck0 0\n"
	if got, e := Text(f); e != api.OK || got != text {
		t.Errorf("%q %v", got, e)
	}
	wantSame(t, 100, f)
	if got, e := Text(nil); e != api.OK || got != "" {
		t.Errorf("%q %v", got, e)
	}
	wantSame(t, 1, nil)
	randomCases(300, 20, 0, 20, func(bits []string, f []api.Fault) { wantSame(t, len(bits), f) })
	for _, nets := range []int{1, 2, 30} {
		all, _ := All(nets, everyKind)
		wantSame(t, nets, all)
	}
}

func TestTextErrors(t *testing.T) {
	good := fault(api.FaultStuck0, 99)
	for _, c := range badFaults {
		f := c.f
		if c.want == api.ErrArg {
			continue
		}
		for _, list := range [][]api.Fault{{f}, {good, f}, {f, {}}} {
			if text, e := Text(list); e != c.want || text != "" {
				t.Errorf("%s: %q %v, not %v", c.name, text, e, c.want)
			}
		}
	}
	for _, net := range []int{-1, 100, 1 << 62} {
		if text, e := Text([]api.Fault{good, fault(api.FaultOpen, net)}); e != api.ErrArg || text != "" {
			t.Errorf("%q %v", text, e)
		}
	}
	if text, e := Text(make([]api.Fault, api.MaxFaults+1)); e != api.ErrLarge || text != "" {
		t.Errorf("%q %v", text, e)
	}
	if text, e := Text(make([]api.Fault, api.MaxFaults)); e != api.ErrKind || text != "" {
		t.Errorf("%q %v", text, e)
	}
}

func TestTextSize(t *testing.T) {
	// 20,000 lines of 10 bytes are as long as a string can be.
	most := slices.Repeat([]api.Fault{fault(api.FaultStuck1, 10)}, api.MaxFaults)
	text, e := Text(most)
	if e != api.OK || len(text) != api.MaxText {
		t.Fatal(len(text), e)
	}
	wantSame(t, 11, most)
	most[17] = fault(api.FaultFirst, 10, 9)
	if text, e := Text(most); e != api.ErrLarge || text != "" {
		t.Error(len(text), e)
	}
	most[19_999] = fault(api.FaultFirst, 10, 10)
	if text, e := Text(most); e != api.ErrTwice || text != "" {
		t.Error(len(text), e)
	}
}

func TestReadNumber(t *testing.T) {
	for text, want := range map[string]api.Errno{
		strings.Repeat("or 0 1\n", 20_000):                api.OK,
		strings.Repeat("or 0 1\n", 20_001):                api.ErrLarge,
		strings.Repeat("or 0 0\n", 20_001):                api.ErrLarge,
		strings.Repeat("or 0 1\n", 20_001) + "or\n":       api.ErrSyntax,
		strings.Repeat("or 0 0\n", 20_000):                api.ErrOrder,
		strings.Repeat("stuck0 10\n", 20_000):             api.ErrArg,
		strings.Repeat("stuck0 10\n", 20_000) + "x":       api.ErrLarge,
		strings.Repeat("stuck0 10\n", 19_999) + "open 10": api.ErrSyntax,
	} {
		f, number, e := Read(2, text)
		if e != want || (len(f) > 0) != (want == api.OK) {
			t.Errorf("%.20q, %d bytes: %d %v, not %v", text, len(text), len(f), e, want)
		}
		if lines := strings.Count(text, "\n"); want == api.ErrSyntax && number != lines && number != lines-1 || want != api.ErrSyntax && number != 0 {
			t.Errorf("%.20q, %d bytes: line %d", text, len(text), number)
		}
	}
}

func TestReadSyntax(t *testing.T) {
	for text, want := range map[string]int{
		"\n":                           0,
		"x":                            0,
		"stuck0 0":                     0,
		"stuck0\n":                     0,
		"stuck0 \n":                    0,
		"stuck0 x\n":                   0,
		"stuck 0\n":                    0,
		"stuck2 0\n":                   0,
		"Open 0\n":                     0,
		"0 open\n":                     0,
		"1 0\n":                        0,
		" open 0\n":                    0,
		"open 0 \n":                    0,
		"open  0\n":                    0,
		"open 00\n":                    0,
		"open 01\n":                    0,
		"open +1\n":                    0,
		"open -0\n":                    0,
		"open 1.0\n":                   0,
		"open\t0\n":                    0,
		"open 0\r\n":                   0,
		"open 0,1\n":                   0,
		"open 1000000000000000\n":      0,
		"open -1000000000000000\n":     0,
		"and 0 1 x\n":                  0,
		"\n\n":                         0,
		"open 0\n\n":                   1,
		"open 0\nopen 1":               1,
		"open 0\nopen 0 0 0\nx\n":      2,
		"open 0\nopen 9\n\nx\n":        2,
		"and 0 1\nor 0 1\nnor 0 1\n\n": 2,
	} {
		if f, number, e := Read(2, text); e != api.ErrSyntax || number != want || len(f) != 0 {
			t.Errorf("%q: %v %d %v", text, f, number, e)
		}
	}
}

func TestReadErrors(t *testing.T) {
	for text, want := range map[string]api.Errno{
		"open 2\n":                             api.ErrArg,
		"open -1\n":                            api.ErrArg,
		"open 999999999999999\n":               api.ErrArg,
		"open -999999999999999\n":              api.ErrArg,
		"open 0 1\n":                           api.ErrForm,
		"and 0\n":                              api.ErrForm,
		"and 1 0\n":                            api.ErrOrder,
		"first 0 1 1\n":                        api.ErrOrder,
		"first 0 0\n":                          api.ErrTwice,
		"or 0 1 0 1 0 1 0\n":                   api.ErrLarge,
		"open 1\nand 1 0\nopen 2\n":            api.ErrOrder,
		strings.Repeat("x", api.MaxText+1):     api.ErrLarge,
		"or" + strings.Repeat(" 0", 50) + "\n": api.ErrLarge,
	} {
		if f, number, e := Read(2, text); e != want || number != 0 || len(f) != 0 {
			t.Errorf("%.40q: %v %d %v, not %v", text, f, number, e, want)
		}
	}
	for _, nets := range []int{0, -1, 101} {
		for _, text := range []string{"", "open 0\n", "x", strings.Repeat("x", api.MaxText+1)} {
			if f, number, e := Read(nets, text); e != api.ErrArg || number != 0 || len(f) != 0 {
				t.Errorf("%d %.10q: %v %d %v", nets, text, f, number, e)
			}
		}
	}
	wantFaults(t, "one net", fault(api.FaultOpen, 0))(readOf(1, "open 0\n"))
	wantFaults(t, "most nets", fault(api.FaultOpen, 99))(readOf(100, "open 99\n"))
}

func readOf(nets int, text string) ([]api.Fault, api.Errno) {
	f, _, e := Read(nets, text)
	return f, e
}
