package diagnose

import (
	"slices"
	"strconv"
	"testing"

	"scanchain/api"
)

func wantDetected(t *testing.T, name string, d api.Dictionary, tests []int, wantYes, wantNo []string) {
	t.Helper()
	yes, no, e := Detected(d, tests)
	if e != api.OK || !slices.Equal(yes, wantYes) || !slices.Equal(no, wantNo) {
		t.Errorf("%s: %v %v %v, not %v %v", name, yes, no, e, wantYes, wantNo)
	}
}

func TestDetected(t *testing.T) {
	wantDetected(t, "one test", small(), []int{1}, []string{"b", "c"}, []string{"a", "d"})
	wantDetected(t, "both", small(), []int{1, 0}, []string{"a", "b", "c"}, []string{"d"})
	wantDetected(t, "no tests", small(), nil, nil, []string{"a", "b", "c", "d"})
	wantDetected(t, "no faults", dictionary("0 0"), []int{0, 1}, nil, nil)
	wantDetected(t, "all", dictionary("g", "a 0", "b g0", "c G"), []int{0}, []string{"a", "b", "c"}, nil)
	randomCases(500, 5, 6, func(d api.Dictionary, tests []int, _ []api.Seen) {
		var yes, no []string
		for _, fault := range faultsOf(d) {
			if plainApart(d, fault, "", tests) {
				yes = append(yes, fault)
			} else {
				no = append(no, fault)
			}
		}
		wantDetected(t, "random", d, tests, yes, no)
	})
}

func wantGroups(t *testing.T, name string, want ...[]string) func(got [][]string, e api.Errno) {
	return func(got [][]string, e api.Errno) {
		t.Helper()
		if e != api.OK || !sameLists(got, want) {
			t.Errorf("%s: %q %v, not %q", name, got, e, want)
		}
	}
}

func TestGroups(t *testing.T) {
	wantGroups(t, "first test", []string{"", "b", "d"}, []string{"a", "c"})(Groups(small(), []int{0}))
	wantGroups(t, "second test", []string{"", "a", "d"}, []string{"b", "c"})(Groups(small(), []int{1}))
	wantGroups(t, "both", []string{"", "d"}, []string{"a"}, []string{"b"}, []string{"c"})(Groups(small(), []int{1, 0}))
	wantGroups(t, "no tests", []string{"", "a", "b", "c", "d"})(Groups(small(), nil))
	wantGroups(t, "no faults", []string{""})(Groups(dictionary("0"), []int{0}))
	wantGroups(t, "nothing is like no fault", []string{""}, []string{"a", "c"}, []string{"b"})(Groups(dictionary("0", "a 1", "b 2", "c 1"), []int{0}))
	// Responses that are alike only if they are written one after the other.
	wantGroups(t, "where a response ends", []string{""}, []string{"a"}, []string{"b"})(Groups(dictionary("x x", "a 1 11", "b 11 1"), []int{0, 1}))
}

// plainGroups puts each fault to the first one that the tests do not distinguish from it.
func plainGroups(d api.Dictionary, tests []int) [][]string {
	groups := [][]string{{""}}
	for _, fault := range faultsOf(d) {
		at := slices.IndexFunc(groups, func(group []string) bool { return !plainApart(d, fault, group[0], tests) })
		if at < 0 {
			groups = append(groups, []string{fault})
		} else {
			groups[at] = append(groups[at], fault)
		}
	}
	return groups
}

func TestGroupsArePlain(t *testing.T) {
	randomCases(500, 5, 8, func(d api.Dictionary, tests []int, _ []api.Seen) {
		want := plainGroups(d, tests)
		wantGroups(t, "random", want...)(Groups(d, tests))
		f, is, e := Resolution(d, tests)
		if e != api.OK || is != (len(d.Rows) > 0) || f.Num*len(d.Rows) != f.Den*(len(want)-1) {
			t.Error(f, is, e, want)
		}
	})
}

func TestMoreTestsHaveNoFewerGroups(t *testing.T) {
	randomCases(300, 6, 10, func(d api.Dictionary, _ []int, _ []api.Seen) {
		last := 0
		for many := range len(d.Good) + 1 {
			groups, e := Groups(d, rangeTo(many))
			if e != api.OK || len(groups) < last {
				t.Error(groups, last, e)
			}
			last = len(groups)
		}
	})
}

func TestResolution(t *testing.T) {
	for _, c := range []struct {
		name  string
		d     api.Dictionary
		tests []int
		want  api.Fraction
		is    bool
	}{
		{"one test", small(), []int{0}, api.Fraction{Num: 1, Den: 4}, true},
		{"both", small(), []int{0, 1}, api.Fraction{Num: 3, Den: 4}, true},
		{"no tests", small(), nil, api.Fraction{Num: 0, Den: 1}, true},
		{"each in a group of its own", dictionary("0", "a 1", "b 2"), []int{0}, api.Fraction{Num: 1, Den: 1}, true},
		{"lowest terms", dictionary("0", "a 1", "b 1"), []int{0}, api.Fraction{Num: 1, Den: 2}, true},
		{"nothing is detected", sized(2, 6), []int{0, 1}, api.Fraction{Num: 0, Den: 1}, true},
		{"no faults", dictionary("0 0"), []int{0}, api.Fraction{}, false},
		{"no faults, no tests", dictionary("0 0"), nil, api.Fraction{}, false},
	} {
		if f, is, e := Resolution(c.d, c.tests); e != api.OK || is != c.is || f != c.want {
			t.Errorf("%s: %v %v %v", c.name, f, is, e)
		}
	}
}

func TestDistinguish(t *testing.T) {
	d := dictionary("0 0 0", "a 1 0 2", "b 1 1 0", "c 0 0 0", "dd 1 0 2")
	wantList(t, "two", 1, 2)(Distinguish(d, "a", "b"))
	wantList(t, "the other way", 1, 2)(Distinguish(d, "b", "a"))
	wantList(t, "from one that is not detected", 0, 2)(Distinguish(d, "a", "c"))
	wantList[int](t, "alike")(Distinguish(d, "a", "dd"))
	wantList[int](t, "itself")(Distinguish(d, "b", "b"))
	for _, c := range [][2]string{{"x", "a"}, {"a", "x"}, {"x", "y"}, {"", "a"}, {"a", ""}, {"", ""}, {"d", "a"}, {"a", "ddd"}, {"a ", "b"}, {"A", "b"}} {
		if l, e := Distinguish(d, c[0], c[1]); e != api.ErrNone || len(l) != 0 {
			t.Error(c, l, e)
		}
	}
	if l, e := Distinguish(dictionary("0"), "a", "a"); e != api.ErrNone || len(l) != 0 {
		t.Error(l, e)
	}
	randomCases(200, 5, 5, func(d api.Dictionary, _ []int, _ []api.Seen) {
		for _, a := range faultsOf(d) {
			for _, b := range faultsOf(d) {
				var want []int
				for _, test := range testsOf(d) {
					if plainApart(d, a, b, []int{test}) {
						want = append(want, test)
					}
				}
				wantList(t, "random", want...)(Distinguish(d, a, b))
			}
		}
	})
}

func pair(a, b string) api.Pair {
	return api.Pair{Name: a, Value: b}
}

func TestDominated(t *testing.T) {
	wantList(t, "by one that more tests detect", pair("a", "c"), pair("b", "c"))(Dominated(small()))
	wantList(t, "each other", pair("a", "b"), pair("b", "a"))(Dominated(dictionary("0", "a 1", "b 2")))
	wantList[api.Pair](t, "by none")(Dominated(dictionary("0 0", "a 1 0", "b 0 1")))
	wantList[api.Pair](t, "not one that is not detected")(Dominated(dictionary("0", "a 0", "b 1")))
	wantList[api.Pair](t, "no faults")(Dominated(dictionary("0")))
	wantList(t, "in order", pair("b", "a"), pair("b", "d"), pair("d", "a"))(Dominated(dictionary("0 0 0", "a 1 1 1", "b 1 0 0", "c 0 0 0", "d 1 1 0")))
	randomCases(500, 4, 7, func(d api.Dictionary, _ []int, _ []api.Seen) {
		var want []api.Pair
		for _, a := range faultsOf(d) {
			for _, b := range faultsOf(d) {
				isDominated := a != b && plainApart(d, a, "", testsOf(d))
				for _, test := range testsOf(d) {
					if plainApart(d, a, "", []int{test}) && !plainApart(d, b, "", []int{test}) {
						isDominated = false
					}
				}
				if isDominated {
					want = append(want, pair(a, b))
				}
			}
		}
		wantList(t, "random", want...)(Dominated(d))
	})
}

func TestDominatedSize(t *testing.T) {
	// 100 faults that dominate each other, and one that dominates them all: 10,000 pairs.
	d := dictionary("0 0 0")
	for i := range 100 {
		d.Rows = append(d.Rows, api.Row{Fault: "a" + strconv.Itoa(100+i), Responses: []string{"1", "0", "0"}})
	}
	d.Rows = append(d.Rows, dictionary("", "b 1 1 0", "c 0 0 1", "d 0 0 0").Rows...)
	pairs, e := Dominated(d)
	if e != api.OK || len(pairs) != 10_000 || pairs[0] != pair("a100", "a101") || pairs[99] != pair("a100", "b") || pairs[9_999] != pair("a199", "b") {
		t.Error(len(pairs), e)
	}
	d.Rows[102].Responses[1] = "1"
	if pairs, e := Dominated(d); e != api.ErrFull || len(pairs) != 0 {
		t.Error(len(pairs), e)
	}
	if pairs, e := Dominated(sized(100, 300)); e != api.OK || len(pairs) != 0 {
		t.Error(len(pairs), e)
	}
}
