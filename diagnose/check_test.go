package diagnose

import (
	"slices"
	"strconv"
	"strings"
	"testing"

	"scanchain/api"
)

// small is a dictionary of two tests in which all faults but d are detected.
func small() api.Dictionary {
	return dictionary("0 0", "a 1 0", "b 0 1", "c 1 1", "d 0 0")
}

// sized returns a dictionary in which no fault is detected.
func sized(tests, faults int) api.Dictionary {
	responses := slices.Repeat([]string{"0"}, tests)
	d := api.Dictionary{Good: responses}
	for i := range faults {
		d.Rows = append(d.Rows, api.Row{Fault: "f" + strconv.Itoa(1_000_000+i), Responses: responses})
	}
	return d
}

// badResponses are strings that are not responses.
var badResponses = []string{"", " ", "0 ", " 0", "0 0", "\n", "0\n", "\t", "\x00", "\x1f", "\x7f", "\x80", "\u00e9", "0\u0661", strings.Repeat("0", 101), strings.Repeat(" ", 200)}

var badDictionaries = []struct {
	name string
	d    api.Dictionary
	want api.Errno
}{
	{"nothing", api.Dictionary{}, api.ErrNone},
	{"no tests", api.Dictionary{Good: []string{}, Rows: small().Rows}, api.ErrNone},
	{"no tests before many rows", api.Dictionary{Rows: sized(1, 301).Rows}, api.ErrNone},
	{"many tests", sized(101, 0), api.ErrLarge},
	{"many tests before their syntax", api.Dictionary{Good: make([]string, 101)}, api.ErrLarge},
	{"many rows", sized(1, 301), api.ErrLarge},
	{"many rows before their names", api.Dictionary{Good: []string{"0"}, Rows: make([]api.Row, 301)}, api.ErrLarge},
	{"many rows before the syntax of the good responses", api.Dictionary{Good: []string{""}, Rows: sized(1, 301).Rows}, api.ErrLarge},
	{"good is not a response", dictionary("\x00", "a 0"), api.ErrSyntax},
	{"good is empty", api.Dictionary{Good: []string{""}}, api.ErrSyntax},
	{"a later one of good is empty", api.Dictionary{Good: []string{"0", "1", ""}}, api.ErrSyntax},
	{"good before rows", api.Dictionary{Good: []string{"0 0"}, Rows: make([]api.Row, 1)}, api.ErrSyntax},
	{"no name", api.Dictionary{Good: []string{"0"}, Rows: []api.Row{{Responses: []string{"0"}}}}, api.ErrName},
	{"name", dictionary("0", "A 0"), api.ErrName},
	{"name begins with a digit", dictionary("0", "a 0", "0 0"), api.ErrName},
	{"long name", dictionary("0", strings.Repeat("a", 41)+" 0"), api.ErrName},
	{"name before form", dictionary("0", "A"), api.ErrName},
	{"name before syntax", dictionary("0", "A \x00"), api.ErrName},
	{"no responses", dictionary("0", "a"), api.ErrForm},
	{"fewer responses", dictionary("0 0", "a 0"), api.ErrForm},
	{"more responses", dictionary("0", "a 0", "b 0 0"), api.ErrForm},
	{"form before syntax", dictionary("0", "a 0 \x00"), api.ErrForm},
	{"form before order", dictionary("0", "b 0", "a"), api.ErrForm},
	{"not a response", dictionary("0", "a \x7f"), api.ErrSyntax},
	{"a later one is not a response", dictionary("0 0", "a 0 0", "b 0 \x80"), api.ErrSyntax},
	{"syntax before order", dictionary("0", "b 0", "a \x00"), api.ErrSyntax},
	{"falls", dictionary("0", "b 0", "a 0"), api.ErrOrder},
	{"twice", dictionary("0", "a 0", "a 0"), api.ErrOrder},
	{"falls later", dictionary("0", "a 0", "c 0", "b 0"), api.ErrOrder},
	{"bytes, not numbers", dictionary("0", "f9 0", "f10 0"), api.ErrOrder},
	{"- comes before digits, _ after them", dictionary("0", "a0 0", "a- 0"), api.ErrOrder},
	{"order of the second before the name of the third", dictionary("0", "b 0", "a 0", "A 0"), api.ErrOrder},
	{"syntax of the first before the name of the second", dictionary("0", "b \x00", "A 0"), api.ErrSyntax},
}

func TestCheckDictionary(t *testing.T) {
	for _, c := range badDictionaries {
		if e := CheckDictionary(c.d); e != c.want {
			t.Errorf("%s: %v, not %v", c.name, e, c.want)
		}
	}
	for _, d := range []api.Dictionary{
		small(), sized(1, 0), sized(100, 0), sized(1, 300), sized(100, 300),
		dictionary("!", "a ~"), dictionary(strings.Repeat("x", 100), strings.Repeat("a", 40)+" "+strings.Repeat("~", 100)),
		dictionary("0", "a 0", "a- 0", "a0 0", "a_ 0", "aa 0", "b 0"), dictionary("good", "good good"),
	} {
		if e := CheckDictionary(d); e != api.OK {
			t.Error(d, e)
		}
	}
}

func TestResponses(t *testing.T) {
	for _, bad := range badResponses {
		good := api.Dictionary{Good: []string{"0", bad}}
		row := api.Dictionary{Good: []string{"0", "0"}, Rows: []api.Row{{Fault: "a", Responses: []string{"0", bad}}}}
		if first, second := CheckDictionary(good), CheckDictionary(row); first != api.ErrSyntax || second != api.ErrSyntax {
			t.Errorf("%q: %v %v", bad, first, second)
		}
		if e := CheckSeen(small(), []api.Seen{seen(0, bad)}); e != api.ErrSyntax {
			t.Errorf("%q: %v", bad, e)
		}
	}
	for b := range 256 {
		want := api.ErrSyntax
		if b >= 33 && b <= 126 {
			want = api.OK
		}
		response := "0" + string([]byte{byte(b)})
		good, s := CheckDictionary(api.Dictionary{Good: []string{response}}), CheckSeen(small(), []api.Seen{seen(1, response)})
		if good != want || s != want {
			t.Errorf("%q: %v %v", response, good, s)
		}
	}
}

var badSeen = []struct {
	name string
	s    []api.Seen
	want api.Errno
}{
	{"many", slices.Repeat([]api.Seen{seen(0, "0")}, 101), api.ErrLarge},
	{"many before their errors", slices.Repeat([]api.Seen{seen(-1, "")}, 101), api.ErrLarge},
	{"as many as can be", slices.Repeat([]api.Seen{seen(0, "0")}, 100), api.ErrOrder},
	{"test below", []api.Seen{seen(-1, "0")}, api.ErrArg},
	{"test above", []api.Seen{seen(2, "0")}, api.ErrArg},
	{"far below", []api.Seen{seen(-1<<63, "0")}, api.ErrArg},
	{"far above", []api.Seen{seen(0, "0"), seen(1<<63-1, "0")}, api.ErrArg},
	{"test before response", []api.Seen{seen(2, "")}, api.ErrArg},
	{"no response", []api.Seen{seen(0, "")}, api.ErrSyntax},
	{"not a response", []api.Seen{seen(0, "0"), seen(1, "0 ")}, api.ErrSyntax},
	{"long", []api.Seen{seen(0, strings.Repeat("0", 101))}, api.ErrSyntax},
	{"response before order", []api.Seen{seen(0, "0"), seen(0, "\x7f")}, api.ErrSyntax},
	{"twice", []api.Seen{seen(0, "0"), seen(0, "0")}, api.ErrOrder},
	{"twice with another response", []api.Seen{seen(1, "0"), seen(1, "1")}, api.ErrOrder},
	{"falls", []api.Seen{seen(1, "0"), seen(0, "0")}, api.ErrOrder},
	{"order of the second before the test of the third", []api.Seen{seen(1, "0"), seen(0, "0"), seen(2, "0")}, api.ErrOrder},
	{"response of the first before the test of the second", []api.Seen{seen(0, ""), seen(2, "0")}, api.ErrSyntax},
}

var badTests = []struct {
	name  string
	tests []int
	want  api.Errno
}{
	{"many", make([]int, 101), api.ErrLarge},
	{"many before there being none", slices.Repeat([]int{-1}, 101), api.ErrLarge},
	{"as many as can be", make([]int, 100), api.ErrTwice},
	{"below", []int{-1}, api.ErrArg},
	{"above", []int{0, 2}, api.ErrArg},
	{"far below", []int{-1 << 63}, api.ErrArg},
	{"far above", []int{1<<63 - 1}, api.ErrArg},
	{"twice", []int{0, 0}, api.ErrTwice},
	{"twice with one between", []int{1, 0, 1}, api.ErrTwice},
	{"none before twice", []int{2, 2}, api.ErrArg},
	{"twice before the third", []int{1, 1, 2}, api.ErrTwice},
}

// The functions by what they take, each with whether all that it returns but the error is zero.
var withDictionary = map[string]func(d api.Dictionary) (api.Errno, bool){
	"CheckDictionary": func(d api.Dictionary) (api.Errno, bool) { return CheckDictionary(d), true },
	"Distinguish":     func(d api.Dictionary) (api.Errno, bool) { l, e := Distinguish(d, "a", "b"); return e, len(l) == 0 },
	"Fewest":          func(d api.Dictionary) (api.Errno, bool) { l, e := Fewest(d); return e, len(l) == 0 },
	"Depth":           func(d api.Dictionary) (api.Errno, bool) { n, k, e := Depth(d); return e, n == 0 && k == 0 },
	"Dominated":       func(d api.Dictionary) (api.Errno, bool) { l, e := Dominated(d); return e, len(l) == 0 },
	"Text":            func(d api.Dictionary) (api.Errno, bool) { s, e := Text(d); return e, s == "" },
}

var withTests = map[string]func(d api.Dictionary, tests []int) (api.Errno, bool){
	"Detected": func(d api.Dictionary, tests []int) (api.Errno, bool) {
		yes, no, e := Detected(d, tests)
		return e, len(yes) == 0 && len(no) == 0
	},
	"Groups": func(d api.Dictionary, tests []int) (api.Errno, bool) {
		l, e := Groups(d, tests)
		return e, len(l) == 0
	},
	"Resolution": func(d api.Dictionary, tests []int) (api.Errno, bool) {
		f, is, e := Resolution(d, tests)
		return e, f == api.Fraction{} && !is
	},
}

var withSeen = map[string]func(d api.Dictionary, s []api.Seen) (api.Errno, bool){
	"CheckSeen": func(d api.Dictionary, s []api.Seen) (api.Errno, bool) { return CheckSeen(d, s), true },
	"Candidates": func(d api.Dictionary, s []api.Seen) (api.Errno, bool) {
		l, is, e := Candidates(d, s)
		return e, len(l) == 0 && !is
	},
	"Best": func(d api.Dictionary, s []api.Seen) (api.Errno, bool) {
		n, most, is, e := Best(d, s)
		return e, n == 0 && most == 0 && !is
	},
	"Nearest": func(d api.Dictionary, s []api.Seen) (api.Errno, bool) {
		l, n, e := Nearest(d, s)
		return e, len(l) == 0 && n == 0
	},
	"Explain": func(d api.Dictionary, s []api.Seen) (api.Errno, bool) {
		l, is, e := Explain(d, s)
		return e, len(l) == 0 && !is
	},
}

func wantError(t *testing.T, name, function string, want api.Errno) func(e api.Errno, isZero bool) {
	return func(e api.Errno, isZero bool) {
		t.Helper()
		if e != want || want != api.OK && !isZero {
			t.Errorf("%s: %s: %v, not %v", name, function, e, want)
		}
	}
}

func TestFunctionsCheckDictionaries(t *testing.T) {
	for _, c := range badDictionaries {
		for function, call := range withDictionary {
			wantError(t, c.name, function, c.want)(call(c.d))
		}
		for function, call := range withTests {
			wantError(t, c.name, function, c.want)(call(c.d, nil))
			wantError(t, c.name+" before the tests", function, c.want)(call(c.d, []int{-1, -1}))
			wantError(t, c.name+" before the number of tests", function, c.want)(call(c.d, make([]int, 101)))
		}
		for function, call := range withSeen {
			wantError(t, c.name, function, c.want)(call(c.d, nil))
			wantError(t, c.name+" before what was seen", function, c.want)(call(c.d, []api.Seen{seen(-1, "")}))
			wantError(t, c.name+" before the number of what was seen", function, c.want)(call(c.d, make([]api.Seen, 101)))
		}
	}
}

func TestFunctionsCheckTests(t *testing.T) {
	for _, c := range badTests {
		for function, call := range withTests {
			wantError(t, c.name, function, c.want)(call(small(), c.tests))
		}
	}
	most := rangeTo(100)
	slices.Reverse(most)
	for function, call := range withTests {
		wantError(t, "most", function, api.OK)(call(sized(100, 300), most))
		wantError(t, "test 0 of one", function, api.OK)(call(sized(1, 1), []int{0}))
		wantError(t, "test 1 of one", function, api.ErrArg)(call(sized(1, 1), []int{1}))
	}
}

func TestFunctionsCheckSeen(t *testing.T) {
	for _, c := range badSeen {
		for function, call := range withSeen {
			wantError(t, c.name, function, c.want)(call(small(), c.s))
		}
	}
	var most []api.Seen
	for test := range 100 {
		most = append(most, seen(test, strings.Repeat("~", 100)))
	}
	for function, call := range withSeen {
		wantError(t, "none", function, api.OK)(call(small(), nil))
		wantError(t, "some", function, api.OK)(call(small(), []api.Seen{seen(1, "x")}))
		wantError(t, "most", function, api.OK)(call(sized(100, 14), most))
	}
}
