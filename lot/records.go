package lot

import (
	"cmp"
	"slices"

	"scanchain/api"
	"scanchain/numbers"
	"scanchain/words"
)

// CheckRecords says what is wrong with limits and records.
func CheckRecords(l []api.Limit, r []api.Record) api.Errno {
	if e := CheckLimits(l); e != api.OK {
		return e
	}
	if len(r) > api.MaxRecords {
		return api.ErrLarge
	}
	for i, record := range r {
		if e := checkRecord(l, record); e != api.OK {
			return e
		}
		if i > 0 && inOrder(r[i-1], record) >= 0 {
			return api.ErrOrder
		}
	}
	return api.OK
}

func checkRecord(l []api.Limit, r api.Record) api.Errno {
	switch {
	case !words.IsKey(r.Unit), !words.IsKey(r.Site):
		return api.ErrName
	case !numbers.IsMoment(r.At), !areMeasures(r.Results):
		return api.ErrArg
	case !areComplete(l, r.Results):
		return api.ErrForm
	}
	return api.OK
}

// areComplete reports whether results end with the first test that they fail, or with the last test.
func areComplete(l []api.Limit, results []int) bool {
	if len(results) == 0 || len(results) > len(l) {
		return false
	}
	test := failedBy(l, results)
	return test == len(results)-1 || test < 0 && len(results) == len(l)
}

func inOrder(x, y api.Record) int {
	return cmp.Or(cmp.Compare(x.At, y.At), cmp.Compare(x.Unit, y.Unit))
}

// Bin returns the bin of a record, and the test that it fails.
func Bin(l []api.Limit, r api.Record) (int, int, api.Errno) {
	if e := CheckRecords(l, []api.Record{r}); e != api.OK {
		return 0, 0, e
	}
	bin, test := binOf(l, r)
	return bin, test, api.OK
}

// binOf returns the bin of a record, and the test that it fails, -1 if it fails none.
func binOf(l []api.Limit, r api.Record) (int, int) {
	test := failedBy(l, r.Results)
	if test < 0 {
		return goodBin, test
	}
	return l[test].Bin, test
}

// passes returns a function that reports whether a record is good.
func passes(l []api.Limit) func(r api.Record) bool {
	return func(r api.Record) bool {
		return failedBy(l, r.Results) < 0
	}
}

// Merge returns the records of both lists.
func Merge(l []api.Limit, a, b []api.Record) ([]api.Record, api.Errno) {
	if e := cmp.Or(CheckRecords(l, a), CheckRecords(l, b)); e != api.OK {
		return nil, e
	}
	all := slices.Concat(a, b)
	slices.SortFunc(all, inOrder)
	var merged []api.Record
	for i, record := range all {
		if i > 0 && inOrder(all[i-1], record) == 0 {
			if !areEqual(all[i-1], record) {
				return nil, api.ErrConflict
			}
			continue
		}
		record.Results = slices.Clone(record.Results)
		merged = append(merged, record)
	}
	if len(merged) > api.MaxRecords {
		return nil, api.ErrLarge
	}
	return merged, api.OK
}

func areEqual(x, y api.Record) bool {
	return inOrder(x, y) == 0 && x.Site == y.Site && slices.Equal(x.Results, y.Results)
}
