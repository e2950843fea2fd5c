// Package diagnose names faults by the responses that were seen.
package diagnose

import (
	"slices"

	"scanchain/api"
	"scanchain/words"
)

// CheckDictionary says what is wrong with a dictionary.
func CheckDictionary(d api.Dictionary) api.Errno {
	switch {
	case len(d.Good) == 0:
		return api.ErrNone
	case len(d.Good) > api.MaxProbes, len(d.Rows) > api.MaxDictionary:
		return api.ErrLarge
	case !areResponses(d.Good):
		return api.ErrSyntax
	}
	before := ""
	for _, row := range d.Rows {
		switch {
		case !words.IsKey(row.Fault):
			return api.ErrName
		case len(row.Responses) != len(d.Good):
			return api.ErrForm
		case !areResponses(row.Responses):
			return api.ErrSyntax
		case row.Fault <= before:
			return api.ErrOrder
		}
		before = row.Fault
	}
	return api.OK
}

func areResponses(list []string) bool {
	return !slices.ContainsFunc(list, func(s string) bool { return !isResponse(s) })
}

func isResponse(s string) bool {
	if s == "" || len(s) > api.MaxResponse {
		return false
	}
	for i := range len(s) {
		if s[i] < '!' || s[i] > '~' {
			return false
		}
	}
	return true
}

// CheckSeen says what is wrong with what was seen.
func CheckSeen(d api.Dictionary, s []api.Seen) api.Errno {
	if e := CheckDictionary(d); e != api.OK {
		return e
	}
	if len(s) > api.MaxProbes {
		return api.ErrLarge
	}
	before := -1
	for _, one := range s {
		switch {
		case !isTest(d, one.Test):
			return api.ErrArg
		case !isResponse(one.Response):
			return api.ErrSyntax
		case one.Test <= before:
			return api.ErrOrder
		}
		before = one.Test
	}
	return api.OK
}

func isTest(d api.Dictionary, test int) bool {
	return test >= 0 && test < len(d.Good)
}

// checkTests says what is wrong with a dictionary, and with a list of its tests.
func checkTests(d api.Dictionary, tests []int) api.Errno {
	if e := CheckDictionary(d); e != api.OK {
		return e
	}
	if len(tests) > api.MaxProbes {
		return api.ErrLarge
	}
	isNew := words.Fresh[int]()
	for _, test := range tests {
		switch {
		case !isTest(d, test):
			return api.ErrArg
		case !isNew(test):
			return api.ErrTwice
		}
	}
	return api.OK
}
