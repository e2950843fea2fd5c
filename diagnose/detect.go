package diagnose

import (
	"slices"
	"strings"

	"scanchain/api"
	"scanchain/ratio"
)

const mostPairs = 10_000

// noFault is the name of the row of a board without faults: it comes before all keys.
const noFault = ""

// withNoFault returns the rows of a dictionary after one of a board without faults.
func withNoFault(d api.Dictionary) []api.Row {
	return slices.Concat([]api.Row{{Fault: noFault, Responses: d.Good}}, d.Rows)
}

func detects(d api.Dictionary, row api.Row, test int) bool {
	return row.Responses[test] != d.Good[test]
}

// differences returns the tests to which two lists of responses to all tests differ.
func differences(x, y []string) []int {
	var tests []int
	for test := range x {
		if x[test] != y[test] {
			tests = append(tests, test)
		}
	}
	return tests
}

// Detected returns the faults that tests detect, and those that they do not.
func Detected(d api.Dictionary, tests []int) ([]string, []string, api.Errno) {
	if e := checkTests(d, tests); e != api.OK {
		return nil, nil, e
	}
	var detected, others []string
	for _, row := range d.Rows {
		if slices.ContainsFunc(tests, func(test int) bool { return detects(d, row, test) }) {
			detected = append(detected, row.Fault)
		} else {
			others = append(others, row.Fault)
		}
	}
	return detected, others, api.OK
}

// Groups returns the faults that tests do not tell apart.
func Groups(d api.Dictionary, tests []int) ([][]string, api.Errno) {
	if e := checkTests(d, tests); e != api.OK {
		return nil, e
	}
	var groups [][]string
	known := map[string]int{}
	for _, row := range withNoFault(d) {
		response := joined(row.Responses, tests)
		group, is := known[response]
		if !is {
			group = len(groups)
			known[response] = group
			groups = append(groups, nil)
		}
		groups[group] = append(groups[group], row.Fault)
	}
	return groups, api.OK
}

// joined returns the responses to some tests as one string, which no other responses have: a response has no blanks.
func joined(responses []string, tests []int) string {
	var some []string
	for _, test := range tests {
		some = append(some, responses[test])
	}
	return strings.Join(some, " ")
}

// Resolution returns how many groups there are for each fault.
func Resolution(d api.Dictionary, tests []int) (api.Fraction, bool, api.Errno) {
	groups, e := Groups(d, tests)
	if e != api.OK || len(d.Rows) == 0 {
		return api.Fraction{}, false, e
	}
	return ratio.Of(len(groups)-1, len(d.Rows)), true, api.OK
}

// Distinguish returns the tests that tell two faults apart.
func Distinguish(d api.Dictionary, a, b string) ([]int, api.Errno) {
	if e := CheckDictionary(d); e != api.OK {
		return nil, e
	}
	first, isFirst := responsesOf(d, a)
	second, isSecond := responsesOf(d, b)
	if !isFirst || !isSecond {
		return nil, api.ErrNone
	}
	return differences(first, second), api.OK
}

// responsesOf returns the responses of a fault, and true; false if there is no such fault.
func responsesOf(d api.Dictionary, fault string) ([]string, bool) {
	for _, row := range d.Rows {
		if row.Fault == fault {
			return row.Responses, true
		}
	}
	return nil, false
}

// Dominated returns the pairs of faults of which one is detected wherever the other one is.
func Dominated(d api.Dictionary) ([]api.Pair, api.Errno) {
	if e := CheckDictionary(d); e != api.OK {
		return nil, e
	}
	var pairs []api.Pair
	for _, a := range d.Rows {
		for _, b := range dominators(d, a) {
			if len(pairs) == mostPairs {
				return nil, api.ErrFull
			}
			pairs = append(pairs, api.Pair{Name: a.Fault, Value: b})
		}
	}
	return pairs, api.OK
}

// dominators returns the other faults that all tests detect that detect a fault; none if no test detects it.
func dominators(d api.Dictionary, a api.Row) []string {
	tests := differences(d.Good, a.Responses)
	if len(tests) == 0 {
		return nil
	}
	var faults []string
	for _, b := range d.Rows {
		isMissed := slices.ContainsFunc(tests, func(test int) bool { return !detects(d, b, test) })
		if b.Fault != a.Fault && !isMissed {
			faults = append(faults, b.Fault)
		}
	}
	return faults
}
