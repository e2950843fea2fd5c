package lot

import (
	"math/big"
	"math/rand/v2"
	"slices"
	"strconv"
	"testing"

	"scanchain/api"
)

func rules() []int { return []int{api.RetestFirst, api.RetestLast, api.RetestBest} }

// again is records in which u1 is good and fails later, u2 is never good, u3 is good between, u10 is good at last.
func again() []api.Record {
	return []api.Record{
		record("u3", 0, "s2", 7, 9), record("u1", 1, "s10", 7, 3), record("u2", 1, "s2", 11), record("u3", 2, "s2", 1, 1),
		record("u2", 3, "s10", 7, 9), record("u1", 4, "s2", -1), record("u3", 5, "s2", 11), record("u10", 6, "s1", 11), record("u10", 7, "s1", 0, 5),
	}
}

func TestFinal(t *testing.T) {
	for rule, want := range map[int][]api.Pair{
		api.RetestFirst: {pair("u1", 1), pair("u10", 5), pair("u2", 5), pair("u3", 6)},
		api.RetestLast:  {pair("u1", 5), pair("u10", 1), pair("u2", 6), pair("u3", 5)},
		api.RetestBest:  {pair("u1", 1), pair("u10", 1), pair("u2", 6), pair("u3", 1)},
	} {
		wantList(t, "final", want...)(Final(two(), again(), rule))
	}
	randomCases(300, func(_ *rand.Rand, l []api.Limit, r []api.Record) {
		for _, rule := range rules() {
			var want []api.Pair
			for _, one := range plainFinal(l, r, rule) {
				bin, _ := plainBin(l, one)
				want = append(want, pair(one.Unit, bin))
			}
			wantList(t, "random", want...)(Final(l, r, rule))
		}
	})
}

func TestYield(t *testing.T) {
	for rule, want := range map[int]*big.Rat{api.RetestFirst: big.NewRat(1, 4), api.RetestLast: big.NewRat(1, 4), api.RetestBest: big.NewRat(3, 4)} {
		wantFraction(t, "yield", want)(Yield(two(), again(), rule))
	}
	wantFraction(t, "none is good", whole(0))(Yield(two(), []api.Record{record("a", 0, "s", 11), record("b", 0, "s", 7, 9)}, api.RetestBest))
	wantFraction(t, "all are good", whole(1))(Yield(two(), []api.Record{record("a", 0, "s", 1, 1), record("b", 0, "s", 7, 5)}, api.RetestBest))
	randomCases(300, func(_ *rand.Rand, l []api.Limit, r []api.Record) {
		if len(r) == 0 {
			return
		}
		for _, rule := range rules() {
			final := plainFinal(l, r, rule)
			good := 0
			for _, one := range final {
				if plainGood(l, one) {
					good++
				}
			}
			want := big.NewRat(int64(good), int64(len(final)))
			wantFraction(t, "random", want)(Yield(l, r, rule))
			if rule == api.RetestFirst {
				wantFraction(t, "first pass", want)(FirstPass(l, r))
			}
		}
	})
}

func TestBestYieldIsNotLess(t *testing.T) {
	randomCases(300, func(_ *rand.Rand, l []api.Limit, r []api.Record) {
		if len(r) == 0 {
			return
		}
		best, _ := Yield(l, r, api.RetestBest)
		for _, rule := range rules() {
			if part, _ := Yield(l, r, rule); part.Num*best.Den > best.Num*part.Den {
				t.Error(l, r, rule, part, best)
			}
		}
	})
}

func TestThrough(t *testing.T) {
	wantFraction(t, "all records count", big.NewRat(1, 3))(Through(two(), again()))
	wantFraction(t, "no results of a test", whole(0))(Through(two(), []api.Record{record("a", 0, "s", 11), record("b", 0, "s", -1)}))
	wantFraction(t, "all are good", whole(1))(Through(two(), []api.Record{record("a", 0, "s", 1, 1), record("b", 0, "s", 7, 5)}))
	randomCases(500, func(_ *rand.Rand, l []api.Limit, r []api.Record) {
		if len(r) > 0 {
			wantFraction(t, "random", plainThrough(l, r))(Through(l, r))
		}
	})
	// Of many tests that few records fail, the product's parts are large: it is not too large all the same.
	l := many(100)
	var r []api.Record
	for i := range 5_000 {
		results := make([]int, 100)
		if i%2 == 0 {
			results = results[:1+i/2%100]
			results[len(results)-1] = 1
		}
		r = append(r, record("u", i, "s", results...))
	}
	wantFraction(t, "many records", plainThrough(l, r))(Through(l, r))
	wantFraction(t, "most", big.NewRat(2_499, 4_999))(Through(l, r[:4_999]))
}

func TestBins(t *testing.T) {
	for rule, want := range map[int][]api.Pair{
		api.RetestFirst: {pair("1", 1), pair("5", 2), pair("6", 1)},
		api.RetestLast:  {pair("1", 1), pair("5", 2), pair("6", 1)},
		api.RetestBest:  {pair("1", 3), pair("6", 1)},
	} {
		wantList(t, "bins", want...)(Bins(two(), again(), rule))
	}
	l := []api.Limit{limit("a", 0, 9, 10), limit("b", 0, 9, 2), limit("c", 0, 9, 100), limit("d", 0, 9, 10), limit("e", 0, 9, 2)}
	r := []api.Record{record("a", 0, "s", 10), record("b", 0, "s", 1, 10), record("c", 0, "s", 1, 1, 10), record("d", 0, "s", 1, 1, 1, 10), record("e", 0, "s", 1, 1, 1, 1, 1)}
	wantList(t, "bins by number, of several tests", pair("1", 1), pair("2", 1), pair("10", 2), pair("100", 1))(Bins(l, r, api.RetestFirst))
	randomCases(300, func(_ *rand.Rand, l []api.Limit, r []api.Record) {
		for _, rule := range rules() {
			final := plainFinal(l, r, rule)
			var want []api.Pair
			for bin := range 101 {
				count := 0
				for _, one := range final {
					if is, _ := plainBin(l, one); is == bin {
						count++
					}
				}
				if count > 0 {
					want = append(want, pair(strconv.Itoa(bin), count))
				}
			}
			wantList(t, "random", want...)(Bins(l, r, rule))
		}
	})
}

func TestBinsAddUp(t *testing.T) {
	randomCases(300, func(_ *rand.Rand, l []api.Limit, r []api.Record) {
		units, _ := unitsOf(r)
		for _, rule := range rules() {
			bins, e := Bins(l, r, rule)
			sum := 0
			for _, bin := range bins {
				count, _ := strconv.Atoi(bin.Value)
				sum += count
			}
			if e != api.OK || sum != len(units) {
				t.Error(l, r, rule, bins, e)
			}
		}
	})
}

func TestPareto(t *testing.T) {
	for rule, want := range map[int][]api.Pair{
		api.RetestFirst: {pair("volt", 2), pair("amp", 1)},
		api.RetestLast:  {pair("volt", 2), pair("amp", 1)},
		api.RetestBest:  {pair("amp", 1)},
	} {
		wantList(t, "pareto", want...)(Pareto(two(), again(), rule))
	}
	l := []api.Limit{limit("z", 0, 9, 2), limit("b", 0, 9, 2), limit("x", 0, 9, 2), limit("a", 0, 9, 2)}
	r := []api.Record{record("a", 0, "s", 10), record("b", 0, "s", 1, 1, 10), record("c", 0, "s", 1, 1, 10), record("d", 0, "s", 1, 1, 1, 10), record("e", 0, "s", 1, 1, 1, 1)}
	wantList(t, "the greatest first, then in the order of tests", pair("x", 2), pair("z", 1), pair("a", 1))(Pareto(l, r, api.RetestFirst))
	var ten []api.Record
	for i := range 12 {
		results := []int{10}
		if i < 2 {
			results = []int{0, 10}
		}
		ten = append(ten, record("u"+strconv.Itoa(i), i, "s", results...))
	}
	wantList(t, "10 is greater than 2", pair("z", 10), pair("b", 2))(Pareto(l, ten, api.RetestFirst))
	randomCases(300, func(_ *rand.Rand, l []api.Limit, r []api.Record) {
		for _, rule := range rules() {
			final := plainFinal(l, r, rule)
			var want []api.Pair
			for count := len(final); count > 0; count-- {
				for test, limit := range l {
					fails := 0
					for _, one := range final {
						if _, failed := plainBin(l, one); failed == test {
							fails++
						}
					}
					if fails == count {
						want = append(want, pair(limit.Key, count))
					}
				}
			}
			wantList(t, "random", want...)(Pareto(l, r, rule))
		}
	})
}

func TestRecovered(t *testing.T) {
	wantList(t, "recovered", "u10", "u3")(Recovered(two(), again()))
	wantList(t, "the example", "u2")(Recovered(two(), four()))
	wantList[string](t, "good at first")(Recovered(two(), []api.Record{record("a", 0, "s", 1, 1), record("a", 1, "s", 11), record("a", 2, "s", 1, 1)}))
	wantList[string](t, "never good")(Recovered(two(), []api.Record{record("a", 0, "s", 11), record("a", 1, "s", 7, 9)}))
	randomCases(300, func(_ *rand.Rand, l []api.Limit, r []api.Record) {
		units, of := unitsOf(r)
		var want []string
		for _, unit := range units {
			records := of[unit]
			isGood := func(one api.Record) bool { return plainGood(l, one) }
			if !isGood(records[0]) && slices.ContainsFunc(records[1:], isGood) {
				want = append(want, unit)
			}
		}
		wantList(t, "random", want...)(Recovered(l, r))
	})
}

func TestBySite(t *testing.T) {
	wantList(t, "sites", pair("s1", "1/2"), pair("s10", "1/2"), pair("s2", "1/5"))(BySite(two(), again()))
	wantList(t, "no lowest terms", pair("a", "2/2"), pair("b", "0/2"))(BySite(two(), []api.Record{
		record("u", 0, "b", 11), record("u", 1, "a", 1, 1), record("u", 2, "b", 11), record("u", 3, "a", 2, 2),
	}))
	randomCases(300, func(_ *rand.Rand, l []api.Limit, r []api.Record) {
		good, all := map[string]int{}, map[string]int{}
		var sites []string
		for _, one := range r {
			if all[one.Site] == 0 {
				sites = append(sites, one.Site)
			}
			all[one.Site]++
			if plainGood(l, one) {
				good[one.Site]++
			}
		}
		slices.Sort(sites)
		var want []api.Pair
		for _, site := range sites {
			want = append(want, pair(site, strconv.Itoa(good[site])+"/"+strconv.Itoa(all[site])))
		}
		wantList(t, "random", want...)(BySite(l, r))
	})
}
