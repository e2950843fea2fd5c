package lot

import (
	"fmt"
	"math"
	"math/rand/v2"
	"slices"
	"strings"
	"testing"

	"scanchain/api"
)

func limit(key string, low, high, bin int) api.Limit {
	return api.Limit{Key: key, Low: low, High: high, Bin: bin}
}

// many returns tests that accept 0 alone.
func many(count int) []api.Limit {
	var l []api.Limit
	for i := range count {
		l = append(l, limit(fmt.Sprint("t", i), 0, 0, 2))
	}
	return l
}

var badLimits = []struct {
	name string
	want api.Errno
	l    []api.Limit
}{
	{"no tests", api.ErrNone, nil},
	{"many", api.ErrLarge, many(101)},
	{"many before a bad one", api.ErrLarge, make([]api.Limit, 101)},
	{"no name", api.ErrName, []api.Limit{limit("", 0, 0, 2)}},
	{"no key", api.ErrName, []api.Limit{limit("a", 0, 0, 2), limit("B", 1, 0, 0)}},
	{"a long name", api.ErrName, []api.Limit{limit(strings.Repeat("a", 41), 0, 0, 2)}},
	{"twice", api.ErrTwice, []api.Limit{limit("a", 0, 0, 2), limit("b", 0, 0, 2), limit("a", 1, 0, 0)}},
	{"low above high", api.ErrArg, []api.Limit{limit("a", 0, 0, 2), limit("b", 1, 0, 2)}},
	{"low too low", api.ErrArg, []api.Limit{limit("a", -100_001, 0, 2)}},
	{"the least low", api.ErrArg, []api.Limit{limit("a", math.MinInt, 0, 2)}},
	{"high too high", api.ErrArg, []api.Limit{limit("a", 0, 100_001, 2)}},
	{"both too high", api.ErrArg, []api.Limit{limit("a", math.MaxInt, math.MaxInt, 2)}},
	{"both too low", api.ErrArg, []api.Limit{limit("a", math.MinInt, math.MinInt, 2)}},
	{"all ints", api.ErrArg, []api.Limit{limit("a", math.MinInt, math.MaxInt, 2)}},
	{"the good bin", api.ErrArg, []api.Limit{limit("a", 0, 0, 1)}},
	{"no bin", api.ErrArg, []api.Limit{limit("a", 0, 0, 0)}},
	{"a bin above", api.ErrArg, []api.Limit{limit("a", 0, 0, 101)}},
	{"the least bin", api.ErrArg, []api.Limit{limit("a", 0, 0, math.MinInt)}},
	{"the most", api.ErrArg, []api.Limit{limit("a", 0, 0, math.MaxInt)}},
	{"a bad test before a name", api.ErrArg, []api.Limit{limit("a", 0, 0, 1), limit("B", 0, 0, 2)}},
	{"twice before a name", api.ErrTwice, []api.Limit{limit("a", 0, 0, 2), limit("a", 0, 0, 2), limit("B", 0, 0, 2)}},
}

func TestCheckLimits(t *testing.T) {
	for _, l := range [][]api.Limit{
		two(),
		many(100),
		{limit("a", -100_000, 100_000, 2), limit("b", 100_000, 100_000, 100), limit("c", -100_000, -100_000, 2)},
	} {
		if e := CheckLimits(l); e != api.OK {
			t.Error(l, e)
		}
	}
	for _, c := range badLimits {
		if e := CheckLimits(c.l); e != c.want {
			t.Errorf("%s: %v, not %v", c.name, e, c.want)
		}
	}
}

// badRecord has records that are wrong by themselves, with the limits of two.
var badRecord = []struct {
	name string
	want api.Errno
	r    api.Record
}{
	{"no unit", api.ErrName, record("", 1, "s", 7, 3)},
	{"no key", api.ErrName, record("U", 1, "s", 7, 3)},
	{"no site", api.ErrName, record("u", 1, "", 7, 3)},
	{"a long site", api.ErrName, record("u", 1, strings.Repeat("s", 41), 7, 3)},
	{"a site that is no key, before a moment", api.ErrName, record("u", -1, "1", 7, 3)},
	{"no moment", api.ErrArg, record("u", -1, "s", 7, 3)},
	{"the end", api.ErrArg, record("u", api.End, "s", 7, 3)},
	{"the least moment", api.ErrArg, record("u", math.MinInt, "s")},
	{"the most", api.ErrArg, record("u", math.MaxInt, "s")},
	{"a result above", api.ErrArg, record("u", 1, "s", 100_001)},
	{"a result below", api.ErrArg, record("u", 1, "s", 7, -100_001)},
	{"the least result", api.ErrArg, record("u", 1, "s", math.MinInt)},
	{"the most", api.ErrArg, record("u", 1, "s", 7, math.MaxInt)},
	{"a result after all tests", api.ErrArg, record("u", 1, "s", 7, 3, 100_001)},
	{"a result after one that fails", api.ErrArg, record("u", 1, "s", 11, -100_001)},
	{"no results", api.ErrForm, record("u", 1, "s")},
	{"few results", api.ErrForm, record("u", 1, "s", 7)},
	{"many results", api.ErrForm, record("u", 1, "s", 7, 3, 3)},
	{"many results, with one that fails", api.ErrForm, record("u", 1, "s", 7, 3, 11)},
	{"a good result after one that fails", api.ErrForm, record("u", 1, "s", 11, 3)},
	{"two results that fail", api.ErrForm, record("u", 1, "s", -1, 6)},
}

// badRecords has lists of records that are wrong.
var badRecords = []struct {
	name string
	want api.Errno
	r    []api.Record
}{
	{"many", api.ErrLarge, make([]api.Record, 5_001)},
	{"an earlier moment", api.ErrOrder, []api.Record{record("a", 5, "s", 11), record("b", 4, "s", 11)}},
	{"an earlier unit", api.ErrOrder, []api.Record{record("b", 5, "s", 11), record("a", 5, "s", 11)}},
	{"the same unit", api.ErrOrder, []api.Record{record("b", 5, "s", 11), record("b", 5, "t", 7, 3)}},
	{"the order before a later name", api.ErrOrder, []api.Record{record("b", 5, "s", 11), record("b", 4, "s", 11), record("", 6, "s", 11)}},
	{"a name before the order", api.ErrName, []api.Record{record("b", 5, "s", 11), record("", 4, "s", 11)}},
	{"a form before the order", api.ErrForm, []api.Record{record("b", 5, "s", 11), record("b", 5, "s")}},
}

// manyRecords returns records of the test of many(1).
func manyRecords(count int) []api.Record {
	var r []api.Record
	for i := range count {
		r = append(r, record("u", i, "s", 0))
	}
	return r
}

func TestCheckRecords(t *testing.T) {
	for _, c := range []struct {
		l []api.Limit
		r []api.Record
	}{
		{two(), nil},
		{two(), four()},
		{two(), []api.Record{record("a", 0, "s", 0, 0), record("b", 0, "s", 10, 5), record("b", api.End-1, "s", 10, 6), record("c", api.End-1, "s", -1)}},
		{two(), []api.Record{record("a", 0, "s", -100_000), record("a", 1, "s", 0, 100_000)}},
		{many(1), manyRecords(5_000)},
		{many(100), []api.Record{record("a", 0, "s", make([]int, 100)...), record("a", 1, "s", append(make([]int, 99), 1)...), record("a", 2, "s", 1)}},
	} {
		if e := CheckRecords(c.l, c.r); e != api.OK {
			t.Error(c.l, c.r, e)
		}
	}
	for _, c := range badRecord {
		for _, r := range [][]api.Record{{c.r}, {record("a", 0, "s", 11), c.r}, {c.r, {}}, {c.r, record("b", -9, "s", 11)}} {
			if e := CheckRecords(two(), r); e != c.want {
				t.Errorf("%s: %v, not %v", c.name, e, c.want)
			}
		}
	}
	for _, c := range badRecords {
		if e := CheckRecords(two(), c.r); e != c.want {
			t.Errorf("%s: %v, not %v", c.name, e, c.want)
		}
	}
	if e := CheckRecords(many(1), manyRecords(5_001)); e != api.ErrLarge {
		t.Error(e)
	}
	for _, results := range [][]int{make([]int, 99), make([]int, 101), append(make([]int, 50), 1, 0), nil} {
		if e := CheckRecords(many(100), []api.Record{record("a", 0, "s", results...)}); e != api.ErrForm {
			t.Error(len(results), e)
		}
	}
}

// withRecords has all functions with records: whether what they return but for the error is zero, and the error. Their other arguments are wrong.
var withRecords = map[string]func(l []api.Limit, r []api.Record) (bool, api.Errno){
	"check": func(l []api.Limit, r []api.Record) (bool, api.Errno) { return true, CheckRecords(l, r) },
	"merge: the first ones": func(l []api.Limit, r []api.Record) (bool, api.Errno) {
		list, e := Merge(l, r, make([]api.Record, 5_001))
		return len(list) == 0, e
	},
	"merge: the second ones": func(l []api.Limit, r []api.Record) (bool, api.Errno) {
		list, e := Merge(l, nil, r)
		return len(list) == 0, e
	},
	"final": func(l []api.Limit, r []api.Record) (bool, api.Errno) {
		pairs, e := Final(l, r, 0)
		return len(pairs) == 0, e
	},
	"yield": func(l []api.Limit, r []api.Record) (bool, api.Errno) {
		part, e := Yield(l, r, 0)
		return part == api.Fraction{}, e
	},
	"first pass": func(l []api.Limit, r []api.Record) (bool, api.Errno) {
		part, e := FirstPass(l, r)
		return part == api.Fraction{}, e
	},
	"through": func(l []api.Limit, r []api.Record) (bool, api.Errno) {
		part, e := Through(l, r)
		return part == api.Fraction{}, e
	},
	"bins": func(l []api.Limit, r []api.Record) (bool, api.Errno) {
		pairs, e := Bins(l, r, 0)
		return len(pairs) == 0, e
	},
	"pareto": func(l []api.Limit, r []api.Record) (bool, api.Errno) {
		pairs, e := Pareto(l, r, 0)
		return len(pairs) == 0, e
	},
	"recovered": func(l []api.Limit, r []api.Record) (bool, api.Errno) {
		units, e := Recovered(l, r)
		return len(units) == 0, e
	},
	"by site": func(l []api.Limit, r []api.Record) (bool, api.Errno) {
		pairs, e := BySite(l, r)
		return len(pairs) == 0, e
	},
	"values": func(l []api.Limit, r []api.Record) (bool, api.Errno) {
		values, e := Values(l, r, "no")
		return len(values) == 0, e
	},
	"tighter": func(l []api.Limit, r []api.Record) (bool, api.Errno) {
		low, high, is, e := Tighter(l, r, "no", -1)
		return low == 0 && high == 0 && !is, e
	},
	"text": func(l []api.Limit, r []api.Record) (bool, api.Errno) {
		text, e := Text(l, r)
		return text == "", e
	},
}

// withLimits has the other functions with limits, as withRecords.
var withLimits = map[string]func(l []api.Limit) (bool, api.Errno){
	"bin": func(l []api.Limit) (bool, api.Errno) {
		bin, test, e := Bin(l, api.Record{})
		return bin == 0 && test == 0, e
	},
	"read": func(l []api.Limit) (bool, api.Errno) {
		r, number, e := Read(l, strings.Repeat("x", 200_001))
		return len(r) == 0 && number == 0, e
	},
}

func TestFunctionsCheckFirst(t *testing.T) {
	for name, call := range withRecords {
		want := func(what string, want api.Errno, l []api.Limit, r []api.Record) {
			t.Helper()
			if isZero, e := call(l, r); e != want || !isZero {
				t.Errorf("%s, %s: %t %v, not %v", name, what, isZero, e, want)
			}
		}
		for _, c := range badLimits {
			want(c.name, c.want, c.l, nil)
			want(c.name, c.want, c.l, make([]api.Record, 5_001))
		}
		for _, c := range badRecord {
			want(c.name, c.want, two(), []api.Record{record("a", 0, "s", 11), c.r})
		}
		for _, c := range badRecords {
			want(c.name, c.want, two(), c.r)
		}
	}
	for name, call := range withLimits {
		for _, c := range badLimits {
			if isZero, e := call(c.l); e != c.want || !isZero {
				t.Errorf("%s, %s: %t %v, not %v", name, c.name, isZero, e, c.want)
			}
		}
	}
}

// withRules has all functions with a retest rule, as withRecords.
var withRules = map[string]func(r []api.Record, rule int) (bool, api.Errno){
	"final": func(r []api.Record, rule int) (bool, api.Errno) {
		pairs, e := Final(two(), r, rule)
		return len(pairs) == 0, e
	},
	"yield": func(r []api.Record, rule int) (bool, api.Errno) {
		part, e := Yield(two(), r, rule)
		return part == api.Fraction{}, e
	},
	"bins": func(r []api.Record, rule int) (bool, api.Errno) {
		pairs, e := Bins(two(), r, rule)
		return len(pairs) == 0, e
	},
	"pareto": func(r []api.Record, rule int) (bool, api.Errno) {
		pairs, e := Pareto(two(), r, rule)
		return len(pairs) == 0, e
	},
}

func TestFunctionsCheckTheRule(t *testing.T) {
	for name, call := range withRules {
		for _, rule := range []int{0, -1, 4, math.MinInt, math.MaxInt} {
			for _, r := range [][]api.Record{nil, four()} {
				if isZero, e := call(r, rule); e != api.ErrKind || !isZero {
					t.Error(name, rule, isZero, e)
				}
			}
		}
	}
}

func TestNoRecords(t *testing.T) {
	for _, rule := range []int{api.RetestFirst, api.RetestLast, api.RetestBest} {
		if part, e := Yield(two(), nil, rule); e != api.ErrNone || part != (api.Fraction{}) {
			t.Error(part, e)
		}
		wantList[api.Pair](t, "final")(Final(two(), nil, rule))
		wantList[api.Pair](t, "bins")(Bins(two(), nil, rule))
		wantList[api.Pair](t, "pareto")(Pareto(two(), nil, rule))
	}
	if part, e := FirstPass(two(), nil); e != api.ErrNone || part != (api.Fraction{}) {
		t.Error(part, e)
	}
	if part, e := Through(two(), nil); e != api.ErrNone || part != (api.Fraction{}) {
		t.Error(part, e)
	}
	wantList[string](t, "recovered")(Recovered(two(), nil))
	wantList[api.Pair](t, "sites")(BySite(two(), nil))
	wantList[int](t, "values")(Values(two(), nil, "amp"))
	wantRecords(t, "merge")(Merge(two(), nil, nil))
	if low, high, is, e := Tighter(two(), nil, "amp", 0); e != api.OK || is || low != 0 || high != 0 {
		t.Error(low, high, is, e)
	}
	if text, e := Text(two(), nil); e != api.OK || text != "" {
		t.Error(text, e)
	}
}

func TestBin(t *testing.T) {
	for _, c := range []struct {
		results   []int
		bin, test int
	}{
		{[]int{7, 9}, 6, 1},
		{[]int{11}, 5, 0},
		{[]int{-1}, 5, 0},
		{[]int{0, 0}, 1, -1},
		{[]int{10, 5}, 1, -1},
		{[]int{10, -1}, 6, 1},
	} {
		if bin, test, e := Bin(two(), record("u", 0, "s", c.results...)); e != api.OK || bin != c.bin || test != c.test {
			t.Error(c.results, bin, test, e)
		}
	}
	for _, c := range badRecord {
		if bin, test, e := Bin(two(), c.r); e != c.want || bin != 0 || test != 0 {
			t.Errorf("%s: %d %d %v, not %v", c.name, bin, test, e, c.want)
		}
	}
	randomCases(100, func(_ *rand.Rand, l []api.Limit, r []api.Record) {
		for _, one := range r {
			wantBin, wantTest := plainBin(l, one)
			if bin, test, e := Bin(l, one); e != api.OK || bin != wantBin || test != wantTest {
				t.Error(l, one, bin, test, e)
			}
		}
	})
}

func TestMerge(t *testing.T) {
	all := four()
	wantRecords(t, "nothing and all", all...)(Merge(two(), nil, all))
	wantRecords(t, "equal ones", all...)(Merge(two(), all, four()))
	wantRecords(t, "parts", all...)(Merge(two(), []api.Record{all[0], all[3]}, all[1:3]))
	wantRecords(t, "parts with equal ones", all...)(Merge(two(), all[1:], all[:3]))
	same := []api.Record{record("a", 5, "s", 11), record("b", 5, "s", 11), record("c", 5, "s", 11), record("a", 6, "s", 11)}
	wantRecords(t, "units of a moment", same...)(Merge(two(), []api.Record{same[1], same[3]}, []api.Record{same[0], same[2]}))
	for _, other := range []api.Record{record("u2", 2, "s2", 7, 9), record("u2", 2, "s1", 7, 8), record("u2", 2, "s1", 7, 3), record("u2", 2, "s1", 11)} {
		for _, lists := range [][2][]api.Record{{all, {other}}, {{other}, all}} {
			if r, e := Merge(two(), lists[0], lists[1]); e != api.ErrConflict || len(r) != 0 {
				t.Error(other, r, e)
			}
		}
	}
}

func TestMergeSize(t *testing.T) {
	l, all := many(1), manyRecords(5_001)
	wantRecords(t, "most", all[:5_000]...)(Merge(l, all[:5_000], all[2_000:5_000]))
	for _, lists := range [][2][]api.Record{{all[:5_000], all[5_000:]}, {all[1:], all[:1]}, {all[:5_000], all[1:]}} {
		if r, e := Merge(l, lists[0], lists[1]); e != api.ErrLarge || len(r) != 0 {
			t.Error(len(r), e)
		}
	}
	other := slices.Clone(all[1:])
	other[4_998] = record("u", 4_999, "s", 1)
	if r, e := Merge(l, all[:5_000], other); e != api.ErrConflict || len(r) != 0 {
		t.Error("a conflict before the size", len(r), e)
	}
}

func TestMergeDoesNotDependOnTheOrder(t *testing.T) {
	randomCases(300, func(r *rand.Rand, l []api.Limit, records []api.Record) {
		var a, b []api.Record
		for _, one := range records {
			which := r.IntN(3)
			if which != 0 {
				a = append(a, one)
			}
			if which != 1 {
				b = append(b, one)
			}
		}
		wantRecords(t, "a and b", records...)(Merge(l, a, b))
		wantRecords(t, "b and a", records...)(Merge(l, b, a))
	})
}
