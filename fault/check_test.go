package fault

import (
	"slices"
	"strings"
	"testing"

	"scanchain/api"
)

// quiet returns a test in which all nets are always 0.
func quiet(nets, vectors int) []string {
	return slices.Repeat([]string{strings.Repeat("0", vectors)}, nets)
}

func fault(kind int, nets ...int) api.Fault {
	return api.Fault{Kind: kind, Nets: nets}
}

// badTests are tests that are not valid, with CheckTest's errors.
var badTests = []struct {
	name string
	t    []string
	want api.Errno
}{
	{"none", nil, api.ErrNone},
	{"empty list", []string{}, api.ErrNone},
	{"many", quiet(101, 1), api.ErrLarge},
	{"their number before their form", append([]string{"x", "00"}, quiet(99, 1)...), api.ErrLarge},
	{"no bits", []string{"2"}, api.ErrForm},
	{"no bits later", []string{"01", "0x"}, api.ErrForm},
	{"blank", []string{"0 "}, api.ErrForm},
	{"line feed", []string{"1\n"}, api.ErrForm},
	{"no ASCII", []string{"0\u0661"}, api.ErrForm},
	{"long", quiet(1, 65), api.ErrLarge},
	{"a long one later", []string{"0", strings.Repeat("1", 65)}, api.ErrLarge},
	{"bits before length", []string{strings.Repeat("x", 65)}, api.ErrForm},
	{"length before the length of the first", append(quiet(1, 64), strings.Repeat("0", 65)), api.ErrLarge},
	{"shorter", []string{"00", "0"}, api.ErrForm},
	{"longer", []string{"0", "0", "00"}, api.ErrForm},
	{"empty later", []string{"0", ""}, api.ErrForm},
	{"empty first", []string{"", "0"}, api.ErrForm},
	{"the length of the second before the bits of the third", []string{"0", strings.Repeat("0", 65), "x"}, api.ErrLarge},
	{"the form of the second before the length of the third", []string{"0", "00", strings.Repeat("0", 65)}, api.ErrForm},
}

func TestCheckTest(t *testing.T) {
	for _, c := range badTests {
		if e := CheckTest(c.t); e != c.want {
			t.Errorf("%s: %v, not %v", c.name, e, c.want)
		}
	}
	for _, nets := range []int{1, 2, 100} {
		for _, vectors := range []int{0, 1, 2, 63, 64} {
			if e := CheckTest(quiet(nets, vectors)); e != api.OK {
				t.Error(nets, vectors, e)
			}
		}
	}
	if e := CheckTest([]string{"010", "101"}); e != api.OK {
		t.Error(e)
	}
}

// badFaults are faults of four nets that are not valid, with CheckFault's errors.
var badFaults = []struct {
	name string
	f    api.Fault
	want api.Errno
}{
	{"no kind", fault(0, 0), api.ErrKind},
	{"below", fault(-1, 0), api.ErrKind},
	{"above", fault(7, 0), api.ErrKind},
	{"far above", fault(1<<62, 0), api.ErrKind},
	{"kind before nets", api.Fault{}, api.ErrKind},
	{"no net", fault(api.FaultStuck0), api.ErrNone},
	{"no nets of a short", fault(api.FaultFirst), api.ErrNone},
	{"many nets", fault(api.FaultAnd, 0, 1, 2, 3, 4, 5, 6), api.ErrLarge},
	{"many nets of one that is stuck", fault(api.FaultStuck1, 0, 1, 2, 3, 0, 1, 2), api.ErrLarge},
	{"their number before the nets", fault(api.FaultOr, -1, 4, 4, 4, 4, 4, 4), api.ErrLarge},
	{"net below", fault(api.FaultOpen, -1), api.ErrArg},
	{"net above", fault(api.FaultStuck1, 4), api.ErrArg},
	{"far below", fault(api.FaultStuck1, -1<<63), api.ErrArg},
	{"far above", fault(api.FaultStuck1, 1<<63-1), api.ErrArg},
	{"last net above", fault(api.FaultOr, 0, 1, 4), api.ErrArg},
	{"net before form", fault(api.FaultStuck0, 0, 4), api.ErrArg},
	{"net before form of a short", fault(api.FaultAnd, 4), api.ErrArg},
	{"net before order", fault(api.FaultAnd, 2, 1, 4), api.ErrArg},
	{"two nets of stuck 0", fault(api.FaultStuck0, 0, 1), api.ErrForm},
	{"two nets of stuck 1", fault(api.FaultStuck1, 0, 1), api.ErrForm},
	{"two nets of an open one", fault(api.FaultOpen, 1, 1), api.ErrForm},
	{"six nets of an open one", fault(api.FaultOpen, 0, 0, 0, 0, 0, 0), api.ErrForm},
	{"one net of and", fault(api.FaultAnd, 0), api.ErrForm},
	{"one net of or", fault(api.FaultOr, 3), api.ErrForm},
	{"one net of first", fault(api.FaultFirst, 3), api.ErrForm},
	{"and falls", fault(api.FaultAnd, 1, 0), api.ErrOrder},
	{"or falls", fault(api.FaultOr, 1, 0), api.ErrOrder},
	{"and falls at the end", fault(api.FaultAnd, 0, 3, 2), api.ErrOrder},
	{"and stays", fault(api.FaultAnd, 1, 1), api.ErrOrder},
	{"or stays at the end", fault(api.FaultOr, 0, 2, 2), api.ErrOrder},
	{"first falls after the first one", fault(api.FaultFirst, 0, 2, 1), api.ErrOrder},
	{"first stays after the first one", fault(api.FaultFirst, 0, 1, 1), api.ErrOrder},
	{"order before twice", fault(api.FaultFirst, 2, 3, 2), api.ErrOrder},
	{"first twice", fault(api.FaultFirst, 1, 1), api.ErrTwice},
	{"first again later", fault(api.FaultFirst, 3, 0, 2, 3), api.ErrTwice},
	{"first again between", fault(api.FaultFirst, 2, 0, 2, 3), api.ErrTwice},
}

func TestCheckFault(t *testing.T) {
	for _, c := range badFaults {
		if e := CheckFault(4, c.f); e != c.want {
			t.Errorf("%s: %v, not %v", c.name, e, c.want)
		}
	}
	for _, f := range []api.Fault{
		fault(api.FaultStuck0, 0), fault(api.FaultStuck1, 6), fault(api.FaultOpen, 3),
		fault(api.FaultAnd, 0, 1), fault(api.FaultAnd, 1, 2, 3, 4, 5, 6), fault(api.FaultOr, 0, 6), fault(api.FaultOr, 0, 2, 4),
		fault(api.FaultFirst, 0, 1), fault(api.FaultFirst, 1, 0), fault(api.FaultFirst, 6, 0, 1), fault(api.FaultFirst, 3, 0, 1, 2, 4, 5),
	} {
		if e := CheckFault(7, f); e != api.OK {
			t.Error(f, e)
		}
	}
}

func TestCheckFaultNets(t *testing.T) {
	for _, nets := range []int{0, -1, 101, -1 << 63, 1<<63 - 1} {
		for _, f := range []api.Fault{{}, fault(api.FaultStuck0, 0)} {
			if e := CheckFault(nets, f); e != api.ErrArg {
				t.Error(nets, f, e)
			}
		}
	}
	for _, nets := range []int{1, 2, 99, 100} {
		if e := CheckFault(nets, fault(api.FaultOpen, nets-1)); e != api.OK {
			t.Error(nets, e)
		}
		if e := CheckFault(nets, fault(api.FaultOpen, nets)); e != api.ErrArg {
			t.Error(nets, e)
		}
	}
}

// errorOfEach returns the error of each function with a list of faults, and whether all else that it returns is zero.
func errorOfEach(bits []string, f []api.Fault) map[string]func() (api.Errno, bool) {
	return map[string]func() (api.Errno, bool){
		"Combined":   func() (api.Errno, bool) { r, e := Combined(bits, f); return e, len(r) == 0 },
		"Undetected": func() (api.Errno, bool) { l, e := Undetected(bits, f); return e, len(l) == 0 },
		"Coverage":   func() (api.Errno, bool) { c, e := Coverage(bits, f); return e, c == api.Fraction{} },
		"Groups":     func() (api.Errno, bool) { g, e := Groups(bits, f); return e, len(g) == 0 },
		"Resolution": func() (api.Errno, bool) { r, e := Resolution(bits, f); return e, r == api.Fraction{} },
		"Curve":      func() (api.Errno, bool) { c, e := Curve(bits, f); return e, len(c) == 0 },
		"Needed":     func() (api.Errno, bool) { n, e := Needed(bits, f); return e, len(n) == 0 },
		"Reduced":    func() (api.Errno, bool) { r, e := Reduced(bits, f); return e, len(r) == 0 },
		"Smallest":   func() (api.Errno, bool) { s, e := Smallest(bits, f); return e, len(s) == 0 },
	}
}

func wantErrors(t *testing.T, name string, bits []string, f []api.Fault, want api.Errno) {
	t.Helper()
	for function, call := range errorOfEach(bits, f) {
		if e, isZero := call(); e != want || !isZero {
			t.Errorf("%s: %s: %v, not %v", function, name, e, want)
		}
	}
}

func wantErrorsOfOne(t *testing.T, name string, bits []string, f api.Fault, want api.Errno) {
	t.Helper()
	response, responds := Response(bits, f)
	does, detects := Detects(bits, f)
	vector, is, firsts := First(bits, f)
	if responds != want || detects != want || firsts != want {
		t.Errorf("%s: %v %v %v, not %v", name, responds, detects, firsts, want)
	}
	if len(response) != 0 || does || vector != 0 || is {
		t.Errorf("%s: %v %v %v %v", name, response, does, vector, is)
	}
}

func TestFunctionsCheckTests(t *testing.T) {
	many := make([]api.Fault, api.MaxFaults+1)
	for _, c := range badTests {
		wantErrors(t, c.name, c.t, []api.Fault{fault(api.FaultStuck1, 0)}, c.want)
		wantErrors(t, c.name+", no faults", c.t, nil, c.want)
		wantErrors(t, c.name+", no fault that is valid", c.t, []api.Fault{{}}, c.want)
		wantErrors(t, c.name+", many faults", c.t, many, c.want)
		wantErrorsOfOne(t, c.name, c.t, fault(api.FaultStuck1, 0), c.want)
		wantErrorsOfOne(t, c.name+", no fault", c.t, api.Fault{}, c.want)
	}
}

func TestFunctionsCheckFaults(t *testing.T) {
	bits := []string{"01", "10", "11", "00"}
	good := fault(api.FaultStuck1, 0)
	for _, c := range badFaults {
		wantErrorsOfOne(t, c.name, bits, c.f, c.want)
		wantErrors(t, c.name, bits, []api.Fault{c.f}, c.want)
		wantErrors(t, c.name+", after others", bits, []api.Fault{good, good, c.f}, c.want)
		for _, later := range badFaults {
			wantErrors(t, c.name+", before "+later.name, bits, []api.Fault{c.f, later.f}, c.want)
		}
	}
	// The nets are those of the test, not those that there can be.
	wantErrorsOfOne(t, "of the test", bits, fault(api.FaultOpen, 4), api.ErrArg)
	wantErrors(t, "of the test", bits, []api.Fault{fault(api.FaultAnd, 0, 4)}, api.ErrArg)
}

func TestFunctionsCheckNumberOfFaults(t *testing.T) {
	bits := []string{"01", "10"}
	most := slices.Repeat([]api.Fault{fault(api.FaultStuck1, 0)}, api.MaxFaults)
	wantErrors(t, "many", bits, append(most, most[0]), api.ErrLarge)
	wantErrors(t, "many before their errors", bits, make([]api.Fault, api.MaxFaults+1), api.ErrLarge)
	wantErrors(t, "errors of the most", bits, make([]api.Fault, api.MaxFaults), api.ErrKind)
	wantErrors(t, "error of the last", bits, append(slices.Clone(most[1:]), fault(api.FaultOpen, 2)), api.ErrArg)
	for function, call := range errorOfEach(bits, most) {
		if e, _ := call(); e != api.OK {
			t.Error(function, e)
		}
	}
}
