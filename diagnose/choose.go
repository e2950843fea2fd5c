package diagnose

import (
	"slices"

	"scanchain/api"
	"scanchain/sets"
)

// Best returns the test after which the worst case is best.
func Best(d api.Dictionary, s []api.Seen) (int, int, bool, api.Errno) {
	if e := CheckSeen(d, s); e != api.OK {
		return 0, 0, false, e
	}
	left := rowsLeft(d, s)
	if len(left) <= 1 {
		return 0, 0, false, api.OK
	}
	best, found := outcome{}, false
	for test := range d.Good {
		if slices.ContainsFunc(s, func(one api.Seen) bool { return one.Test == test }) {
			continue
		}
		if after := outcomeOf(left, test); !found || after.isBetter(best) {
			best, found = after, true
		}
	}
	return best.test, best.most, found, api.OK
}

// outcome is what a test tells: how many different responses there are to it, and how many rows have the same one at most.
type outcome struct{ test, most, different int }

func outcomeOf(rows []api.Row, test int) outcome {
	counts := map[string]int{}
	most := 0
	for _, row := range rows {
		response := row.Responses[test]
		counts[response]++
		most = max(most, counts[response])
	}
	return outcome{test, most, len(counts)}
}

func (o outcome) isBetter(than outcome) bool {
	return o.most < than.most || o.most == than.most && o.different > than.different
}

// Fewest returns as few tests as can be that tell apart what all do.
func Fewest(d api.Dictionary) ([]int, api.Errno) {
	if e := CheckDictionary(d); e != api.OK {
		return nil, e
	}
	if len(d.Good) > api.MaxTreeTests {
		return nil, api.ErrLarge
	}
	rows := withNoFault(d)
	var needs []sets.Set
	for i, a := range rows {
		for _, b := range rows[:i] {
			var apart sets.Set
			for _, test := range differences(a.Responses, b.Responses) {
				apart |= sets.Only(test)
			}
			needs = append(needs, apart)
		}
	}
	return sets.Fewest(len(d.Good), needs), api.OK
}

// Depth returns how many tests are needed in the worst case, and the first one.
func Depth(d api.Dictionary) (int, int, api.Errno) {
	if e := CheckDictionary(d); e != api.OK {
		return 0, 0, e
	}
	if len(d.Rows) > api.MaxTree || len(d.Good) > api.MaxTreeTests {
		return 0, 0, api.ErrLarge
	}
	rows := withNoFault(d)
	best := planner(rows)(sets.Before(len(rows)))
	return best.depth, best.first, api.OK
}

// plan is how many tests are needed in the worst case, and the first one; none if no test tells anything.
type plan struct{ depth, first int }

// planner returns a function that returns the best plan that tells apart what is left of some rows; of several ones that with the smallest first test.
func planner(rows []api.Row) func(left sets.Set) plan {
	known := map[sets.Set]plan{}
	var best func(left sets.Set) plan
	best = func(left sets.Set) plan {
		if p, is := known[left]; is {
			return p
		}
		var least plan
		for test := range rows[0].Responses {
			parts := parted(rows, left, test)
			if len(parts) == 1 {
				continue
			}
			depth := 1
			for _, part := range parts {
				depth = max(depth, 1+best(part).depth)
			}
			if least.depth == 0 || depth < least.depth {
				least = plan{depth, test}
			}
		}
		known[left] = least
		return least
	}
	return best
}

// parted returns what is left of some rows after each response to a test.
func parted(rows []api.Row, left sets.Set, test int) map[string]sets.Set {
	parts := map[string]sets.Set{}
	for _, i := range left.List() {
		parts[rows[i].Responses[test]] |= sets.Only(i)
	}
	return parts
}
