package diagnose

import (
	"slices"

	"scanchain/api"
	"scanchain/sets"
)

// misses returns to how many tests responses differ from those that were seen.
func misses(responses []string, s []api.Seen) int {
	count := 0
	for _, one := range s {
		if responses[one.Test] != one.Response {
			count++
		}
	}
	return count
}

// rowsLeft returns the rows that respond as was seen, that of a board without faults first.
func rowsLeft(d api.Dictionary, s []api.Seen) []api.Row {
	return slices.DeleteFunc(withNoFault(d), func(row api.Row) bool { return misses(row.Responses, s) > 0 })
}

// namesOf returns the faults of rows.
func namesOf(rows []api.Row) []string {
	var names []string
	for _, row := range rows {
		names = append(names, row.Fault)
	}
	return names
}

// Candidates returns the faults that respond as was seen.
func Candidates(d api.Dictionary, s []api.Seen) ([]string, bool, api.Errno) {
	if e := CheckSeen(d, s); e != api.OK {
		return nil, false, e
	}
	left := rowsLeft(d, s)
	if len(left) > 0 && left[0].Fault == noFault {
		return namesOf(left[1:]), true, api.OK
	}
	return namesOf(left), false, api.OK
}

// Nearest returns the faults that respond most nearly as was seen.
func Nearest(d api.Dictionary, s []api.Seen) ([]string, int, api.Errno) {
	if e := CheckSeen(d, s); e != api.OK {
		return nil, 0, e
	}
	var nearest []api.Row
	least := 0
	for _, row := range d.Rows {
		count := misses(row.Responses, s)
		if len(nearest) == 0 || count < least {
			nearest, least = nil, count
		}
		if count == least {
			nearest = append(nearest, row)
		}
	}
	return namesOf(nearest), least, api.OK
}

// Explain explains what was seen by several faults.
func Explain(d api.Dictionary, s []api.Seen) ([]string, bool, api.Errno) {
	if e := CheckSeen(d, s); e != api.OK {
		return nil, false, e
	}
	parts := partsOf(d, s)
	if len(parts) > api.MaxCovered {
		return nil, false, api.ErrLarge
	}
	var needs []sets.Set
	for _, one := range s {
		if passed(d, one) {
			continue
		}
		detecting := detectedBy(d, parts, one.Test)
		if detecting == 0 {
			return nil, false, api.OK
		}
		needs = append(needs, detecting)
	}
	var fewest []api.Row
	for _, part := range sets.Fewest(len(parts), needs) {
		fewest = append(fewest, parts[part])
	}
	return namesOf(fewest), true, api.OK
}

func passed(d api.Dictionary, one api.Seen) bool {
	return one.Response == d.Good[one.Test]
}

// partsOf returns the rows of the faults that can be part of an explanation: no test that passed detects them.
func partsOf(d api.Dictionary, s []api.Seen) []api.Row {
	var parts []api.Row
	for _, row := range d.Rows {
		if !slices.ContainsFunc(s, func(one api.Seen) bool { return passed(d, one) && detects(d, row, one.Test) }) {
			parts = append(parts, row)
		}
	}
	return parts
}

// detectedBy returns which of some rows a test detects.
func detectedBy(d api.Dictionary, rows []api.Row, test int) sets.Set {
	var detected sets.Set
	for i, row := range rows {
		if detects(d, row, test) {
			detected |= sets.Only(i)
		}
	}
	return detected
}
