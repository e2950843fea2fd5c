package diagnose

import (
	"math/rand/v2"
	"slices"
	"strconv"
	"strings"
	"testing"

	"scanchain/api"
)

// dictionary makes a dictionary of words: the good responses, then for each fault its name and its responses.
func dictionary(good string, rows ...string) api.Dictionary {
	d := api.Dictionary{Good: strings.Fields(good)}
	for _, row := range rows {
		parts := strings.Fields(row)
		d.Rows = append(d.Rows, api.Row{Fault: parts[0], Responses: parts[1:]})
	}
	return d
}

func seen(test int, response string) api.Seen {
	return api.Seen{Test: test, Response: response}
}

func rangeTo(n int) []int {
	var l []int
	for i := range n {
		l = append(l, i)
	}
	return l
}

func testsOf(d api.Dictionary) []int {
	return rangeTo(len(d.Good))
}

// responseOf returns the response of a fault to a test; that of a board without faults for the empty string.
func responseOf(d api.Dictionary, fault string, test int) string {
	for _, row := range d.Rows {
		if row.Fault == fault {
			return row.Responses[test]
		}
	}
	return d.Good[test]
}

func faultsOf(d api.Dictionary) []string {
	var faults []string
	for _, row := range d.Rows {
		faults = append(faults, row.Fault)
	}
	return faults
}

// plainApart reports whether tests distinguish two faults (or no fault, the empty string).
func plainApart(d api.Dictionary, a, b string, tests []int) bool {
	for _, test := range tests {
		if responseOf(d, a, test) != responseOf(d, b, test) {
			return true
		}
	}
	return false
}

// plainPairs returns all pairs of faults (and no fault) that tests distinguish.
func plainPairs(d api.Dictionary, tests []int) []string {
	var pairs []string
	all := append([]string{""}, faultsOf(d)...)
	for _, a := range all {
		for _, b := range all {
			if plainApart(d, a, b, tests) {
				pairs = append(pairs, a+" "+b)
			}
		}
	}
	return pairs
}

func plainIsPart(d api.Dictionary, fault string, s []api.Seen) bool {
	for _, one := range s {
		if responseOf(d, fault, one.Test) != d.Good[one.Test] && one.Response == d.Good[one.Test] {
			return false
		}
	}
	return true
}

func plainIsExplained(d api.Dictionary, faults []string, s []api.Seen) bool {
	for _, one := range s {
		if one.Response != d.Good[one.Test] && !slices.ContainsFunc(faults, func(fault string) bool { return responseOf(d, fault, one.Test) != d.Good[one.Test] }) {
			return false
		}
	}
	return true
}

// choices returns all lists of some of the elements of a list, the shorter ones first, those of a length in lexicographic order, if the list rises.
func choices[T any](list []T) [][]T {
	var all [][]T
	var add func(chosen []T, from, more int)
	add = func(chosen []T, from, more int) {
		if more == 0 {
			all = append(all, slices.Clone(chosen))
			return
		}
		for i := from; i < len(list); i++ {
			add(append(chosen, list[i]), i+1, more-1)
		}
	}
	for long := range len(list) + 1 {
		add(nil, 0, long)
	}
	return all
}

// randomDictionary returns a dictionary with few different responses, so that some faults are not detected or not distinguished.
func randomDictionary(r *rand.Rand, tests, faults int) api.Dictionary {
	kinds, sparse := 1+r.IntN(3), r.IntN(4)
	respond := func() []string {
		var responses []string
		for range tests {
			responses = append(responses, strconv.Itoa(r.IntN(kinds)))
		}
		return responses
	}
	d := api.Dictionary{Good: respond()}
	for i := range faults {
		row := api.Row{Fault: "f" + string(rune('a'+i)), Responses: respond()}
		if r.IntN(8) == 0 {
			row.Responses = slices.Clone(d.Good)
		} else if r.IntN(3) < sparse {
			// One test alone detects it.
			row.Responses = slices.Clone(d.Good)
			row.Responses[r.IntN(tests)] = "9"
		}
		d.Rows = append(d.Rows, row)
	}
	return d
}

// randomSeen returns responses to some tests: those of up to three faults at once, with others in between.
func randomSeen(r *rand.Rand, d api.Dictionary) []api.Seen {
	responses := slices.Clone(d.Good)
	for range min(r.IntN(4), len(d.Rows)) {
		for test, response := range d.Rows[r.IntN(len(d.Rows))].Responses {
			if response != d.Good[test] {
				responses[test] = response
			}
		}
	}
	most, others := 1+r.IntN(4), r.IntN(2)
	var s []api.Seen
	for test, response := range responses {
		if r.IntN(4) < most {
			if r.IntN(5) < others {
				response = strconv.Itoa(r.IntN(4))
			}
			s = append(s, seen(test, response))
		}
	}
	return s
}

// randomCases calls do with dictionaries, with some of their tests in any order, and with what was seen.
func randomCases(count, mostTests, mostFaults int, do func(d api.Dictionary, tests []int, s []api.Seen)) {
	r := rand.New(rand.NewPCG(5, 1))
	for range count {
		d := randomDictionary(r, 1+r.IntN(mostTests), r.IntN(mostFaults+1))
		do(d, r.Perm(len(d.Good))[:r.IntN(len(d.Good)+1)], randomSeen(r, d))
	}
}

// wantList reports a list or an error that is not the one that is wanted.
func wantList[T comparable](t *testing.T, name string, want ...T) func(got []T, e api.Errno) {
	return func(got []T, e api.Errno) {
		t.Helper()
		if e != api.OK || !slices.Equal(got, want) {
			t.Errorf("%s: %v %v, not %v", name, got, e, want)
		}
	}
}

func sameLists[T comparable](x, y [][]T) bool {
	return slices.EqualFunc(x, y, func(a, b []T) bool { return slices.Equal(a, b) })
}

func sameDictionaries(x, y api.Dictionary) bool {
	return slices.Equal(x.Good, y.Good) && slices.EqualFunc(x.Rows, y.Rows, func(a, b api.Row) bool {
		return a.Fault == b.Fault && slices.Equal(a.Responses, b.Responses)
	})
}

func isZero(d api.Dictionary) bool {
	return len(d.Good) == 0 && len(d.Rows) == 0
}
