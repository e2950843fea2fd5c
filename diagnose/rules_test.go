package diagnose

import (
	"slices"
	"strings"
	"sync"
	"testing"

	"scanchain/api"
)

// spareDictionary is small with elements that are not valid in the memory behind each list.
func spareDictionary() api.Dictionary {
	d := small()
	spare := func(list []string) []string { return append(slices.Clone(list), "?!")[:len(list)] }
	d.Good = spare(d.Good)
	for i := range d.Rows {
		d.Rows[i].Responses = spare(d.Rows[i].Responses)
	}
	d.Rows = append(d.Rows, api.Row{Fault: "?"})[:len(d.Rows)]
	return d
}

func isSpared(d api.Dictionary) bool {
	return d.Good[:3][2] == "?!" && d.Rows[:5][4].Fault == "?" && d.Rows[0].Responses[:3][2] == "?!" && d.Rows[3].Responses[:3][2] == "?!"
}

func useAll(t *testing.T, d api.Dictionary, tests []int, s []api.Seen) {
	t.Helper()
	wantDetected(t, "detected", d, tests, []string{"b", "c"}, []string{"a", "d"})
	wantGroups(t, "groups", []string{"", "a", "d"}, []string{"b", "c"})(Groups(d, tests))
	wantList(t, "distinguish", 0, 1)(Distinguish(d, "a", "b"))
	wantList(t, "fewest", 0, 1)(Fewest(d))
	wantList(t, "dominated", pair("a", "c"), pair("b", "c"))(Dominated(d))
	wantCandidates(t, "candidates", d, s, false, "a", "c")
	wantNearest(t, "nearest", d, s, 0, "a", "c")
	wantExplained(t, "explain", d, s, true, "a")
	wantBest(t, "best", d, s, 1, 1)
	wantDepth(t, "depth", d, 2, 0)
	wantSame(t, d)
	if f, is, e := Resolution(d, tests); e != api.OK || !is || f != (api.Fraction{Num: 1, Den: 4}) {
		t.Error(f, is, e)
	}
}

func TestArgumentsStay(t *testing.T) {
	d, tests, s := spareDictionary(), []int{1, 9}[:1], []api.Seen{seen(0, "1"), seen(9, "")}[:1]
	useAll(t, d, tests, s)
	if !sameDictionaries(d, small()) || !isSpared(d) || tests[0] != 1 || tests[:2][1] != 9 || s[0] != seen(0, "1") || s[:2][1] != seen(9, "") {
		t.Error("changed", d, tests, s)
	}
}

func TestResultsAreNew(t *testing.T) {
	d := spareDictionary()
	groups, _ := Groups(d, []int{0})
	_, _ = append(groups[0], "x"), append(groups[1], "x")
	clear(groups[0])
	wantGroups(t, "one and the other", []string{"", "", ""}, []string{"a", "c"})(groups, api.OK)
	candidates, _, _ := Candidates(d, nil)
	clear(candidates)
	yes, no, _ := Detected(d, []int{1})
	clear(append(yes, "x"))
	clear(no)
	read, _, _ := Read("good 0 1\na 2 3\nb 4 5\n")
	_, _ = append(read.Good, "x"), append(read.Rows[0].Responses, "x")
	clear(read.Rows[0].Responses)
	clear(read.Good)
	if !slices.Equal(read.Rows[1].Responses, []string{"4", "5"}) || read.Rows[0].Fault != "a" {
		t.Error("shared memory", read)
	}
	useAll(t, d, []int{1}, []api.Seen{seen(0, "1")})
}

func TestFunctionsRunAtOnce(t *testing.T) {
	d := spareDictionary()
	var all sync.WaitGroup
	for range 8 {
		all.Go(func() {
			for range 20 {
				useAll(t, d, []int{1}, []api.Seen{seen(0, "1")})
			}
		})
	}
	all.Wait()
}

func TestLargeArgumentsReturn(t *testing.T) {
	const most = 200_000
	long := strings.Repeat("a", most)
	for _, c := range []struct {
		name string
		d    api.Dictionary
		want api.Errno
	}{
		{"tests", api.Dictionary{Good: make([]string, most)}, api.ErrLarge},
		{"rows", api.Dictionary{Good: []string{"0"}, Rows: make([]api.Row, most)}, api.ErrLarge},
		{"response", dictionary(long), api.ErrSyntax},
		{"name", dictionary("0", long+" 0"), api.ErrName},
		{"responses of a fault", api.Dictionary{Good: []string{"0"}, Rows: []api.Row{{Fault: "a", Responses: make([]string, most)}}}, api.ErrForm},
		{"response of a fault", dictionary("0", "a "+long), api.ErrSyntax},
	} {
		if e := CheckDictionary(c.d); e != c.want {
			t.Errorf("%s: %v, not %v", c.name, e, c.want)
		}
	}
	for function, call := range withTests {
		wantError(t, "tests", function, api.ErrLarge)(call(small(), make([]int, most)))
	}
	for function, call := range withSeen {
		wantError(t, "seen", function, api.ErrLarge)(call(small(), make([]api.Seen, most)))
		wantError(t, "response", function, api.ErrSyntax)(call(small(), []api.Seen{seen(0, long)}))
	}
	if l, e := Distinguish(small(), long, "a"); e != api.ErrNone || len(l) != 0 {
		t.Error(l, e)
	}
	for _, line := range []string{"\n", "good 0\n", "good\n", "good ", "a 0\n", "x"} {
		if d, _, e := Read(strings.Repeat(line, api.MaxText/len(line))); e == api.OK || !isZero(d) {
			t.Error(line, e)
		}
	}
}

func TestMostOfAll(t *testing.T) {
	d := sized(api.MaxProbes, api.MaxDictionary)
	d.Good = slices.Repeat([]string{strings.Repeat("x", api.MaxResponse)}, api.MaxProbes)
	for i := range d.Rows {
		d.Rows[i].Responses = slices.Clone(d.Good)
		d.Rows[i].Responses[i%api.MaxProbes] = strings.Repeat("x", api.MaxResponse-1) + "y"
	}
	var s []api.Seen
	for test := range api.MaxProbes - 1 {
		s = append(s, seen(test, d.Good[test]))
	}
	wantBest(t, "best", d, s, api.MaxProbes-1, 3)
	wantCandidates(t, "candidates", d, s, true, d.Rows[99].Fault, d.Rows[199].Fault, d.Rows[299].Fault)
	wantExplained(t, "explain", d, append(s, seen(99, "z")), true, d.Rows[99].Fault)
	groups, e := Groups(d, testsOf(d))
	if e != api.OK || len(groups) != 101 {
		t.Error(len(groups), e)
	}
	if pairs, e := Dominated(d); e != api.OK || len(pairs) != 600 {
		t.Error(len(pairs), e)
	}
	if text, e := Text(d); e != api.ErrLarge || text != "" {
		t.Error(len(text), e)
	}
}
