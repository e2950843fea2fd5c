package lot

import (
	"cmp"
	"maps"
	"slices"
	"strconv"

	"scanchain/api"
	"scanchain/numbers"
	"scanchain/ratio"
)

// checkedUnits returns what counting does, after the checks.
func checkedUnits(l []api.Limit, r []api.Record, rule int) ([]api.Record, api.Errno) {
	if e := CheckRecords(l, r); e != api.OK {
		return nil, e
	}
	if !numbers.AreWithin(api.RetestFirst, api.RetestBest, rule) {
		return nil, api.ErrKind
	}
	return counting(l, r, rule), api.OK
}

// counting returns the record of each unit that counts by a retest rule, by unit.
func counting(l []api.Limit, r []api.Record, rule int) []api.Record {
	isGood := passes(l)
	counts := map[string]api.Record{}
	for _, record := range r {
		before, has := counts[record.Unit]
		if !has || rule == api.RetestLast || rule == api.RetestBest && !isGood(before) {
			counts[record.Unit] = record
		}
	}
	var units []api.Record
	for _, unit := range slices.Sorted(maps.Keys(counts)) {
		units = append(units, counts[unit])
	}
	return units
}

// pairOf returns a pair of a name and how many there are.
func pairOf(name string, count int) api.Pair {
	return api.Pair{Name: name, Value: strconv.Itoa(count)}
}

// Final returns the bin of each unit.
func Final(l []api.Limit, r []api.Record, rule int) ([]api.Pair, api.Errno) {
	units, e := checkedUnits(l, r, rule)
	if e != api.OK {
		return nil, e
	}
	var pairs []api.Pair
	for _, record := range units {
		bin, _ := binOf(l, record)
		pairs = append(pairs, pairOf(record.Unit, bin))
	}
	return pairs, api.OK
}

// Yield returns the part of units that are finally good.
func Yield(l []api.Limit, r []api.Record, rule int) (api.Fraction, api.Errno) {
	units, e := checkedUnits(l, r, rule)
	if e != api.OK {
		return api.Fraction{}, e
	}
	return goodPart(l, units)
}

// FirstPass returns the part of units that are good at first.
func FirstPass(l []api.Limit, r []api.Record) (api.Fraction, api.Errno) {
	return Yield(l, r, api.RetestFirst)
}

// Through returns the product of the yields of all tests.
func Through(l []api.Limit, r []api.Record) (api.Fraction, api.Errno) {
	if e := CheckRecords(l, r); e != api.OK {
		return api.Fraction{}, e
	}
	// Records are complete: those with a good result of a test are those with a result of the next one. So all numbers of the product cancel out but the good results of the last test and the results of the first one, and it is never too large.
	return goodPart(l, r)
}

// goodPart returns the part of records that are good.
func goodPart(l []api.Limit, r []api.Record) (api.Fraction, api.Errno) {
	if len(r) == 0 {
		return api.Fraction{}, api.ErrNone
	}
	isGood := passes(l)
	good := 0
	for _, record := range r {
		if isGood(record) {
			good++
		}
	}
	return ratio.Of(good, len(r)), api.OK
}

// Bins returns how many units are in each bin.
func Bins(l []api.Limit, r []api.Record, rule int) ([]api.Pair, api.Errno) {
	units, e := checkedUnits(l, r, rule)
	if e != api.OK {
		return nil, e
	}
	counts := map[int]int{}
	for _, record := range units {
		bin, _ := binOf(l, record)
		counts[bin]++
	}
	var pairs []api.Pair
	for _, bin := range slices.Sorted(maps.Keys(counts)) {
		pairs = append(pairs, pairOf(strconv.Itoa(bin), counts[bin]))
	}
	return pairs, api.OK
}

// Pareto returns how many units finally fail each test.
func Pareto(l []api.Limit, r []api.Record, rule int) ([]api.Pair, api.Errno) {
	units, e := checkedUnits(l, r, rule)
	if e != api.OK {
		return nil, e
	}
	counts := map[int]int{}
	for _, record := range units {
		if _, test := binOf(l, record); test >= 0 {
			counts[test]++
		}
	}
	tests := slices.SortedFunc(maps.Keys(counts), func(x, y int) int {
		return cmp.Or(cmp.Compare(counts[y], counts[x]), cmp.Compare(x, y))
	})
	var pairs []api.Pair
	for _, test := range tests {
		pairs = append(pairs, pairOf(l[test].Key, counts[test]))
	}
	return pairs, api.OK
}

// Recovered returns the units that fail at first, and are good later.
func Recovered(l []api.Limit, r []api.Record) ([]string, api.Errno) {
	if e := CheckRecords(l, r); e != api.OK {
		return nil, e
	}
	first, best := counting(l, r, api.RetestFirst), counting(l, r, api.RetestBest)
	isGood := passes(l)
	var units []string
	for i, record := range best {
		if !isGood(first[i]) && isGood(record) {
			units = append(units, record.Unit)
		}
	}
	return units, api.OK
}

// BySite returns how many records of each site are good.
func BySite(l []api.Limit, r []api.Record) ([]api.Pair, api.Errno) {
	if e := CheckRecords(l, r); e != api.OK {
		return nil, e
	}
	isGood := passes(l)
	good, all := map[string]int{}, map[string]int{}
	for _, record := range r {
		all[record.Site]++
		if isGood(record) {
			good[record.Site]++
		}
	}
	var pairs []api.Pair
	for _, site := range slices.Sorted(maps.Keys(all)) {
		pairs = append(pairs, api.Pair{Name: site, Value: strconv.Itoa(good[site]) + "/" + strconv.Itoa(all[site])})
	}
	return pairs, api.OK
}
