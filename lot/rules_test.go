package lot

import (
	"math/big"
	"slices"
	"strings"
	"sync"
	"testing"

	"scanchain/api"
)

// spare returns a list with elements that are not valid in the memory behind it.
func spare[T any](bad T, good ...T) []T {
	return append(slices.Clone(good), bad, bad)[:len(good)]
}

type arguments struct {
	l         []api.Limit
	all, a, b []api.Record
	values    []int
}

func givenArguments() arguments {
	r := four()
	for i := range r {
		r[i].Results = spare(-9, r[i].Results...)
	}
	return arguments{
		l:      spare(limit("", 1, 0, 1), two()...),
		all:    spare(record("", -1, ""), r...),
		a:      spare(record("", -1, ""), r[1], r[3]),
		b:      spare(record("", -1, ""), r[0], r[2], r[3]),
		values: spare(999_999, 7, 1, 3, 5),
	}
}

func useAll(t *testing.T, a arguments) {
	t.Helper()
	wantRecords(t, "merge", four()...)(Merge(a.l, a.a, a.b))
	wantList(t, "final", pair("u1", 1), pair("u2", 1), pair("u3", 5))(Final(a.l, a.all, api.RetestBest))
	wantFraction(t, "yield", big.NewRat(2, 3))(Yield(a.l, a.all, api.RetestBest))
	wantFraction(t, "first pass", big.NewRat(1, 3))(FirstPass(a.l, a.all))
	wantFraction(t, "through", big.NewRat(1, 2))(Through(a.l, a.all))
	wantList(t, "bins", pair("1", 2), pair("5", 1))(Bins(a.l, a.all, api.RetestLast))
	wantList(t, "pareto", pair("volt", 1), pair("amp", 1))(Pareto(a.l, a.all, api.RetestFirst))
	wantList(t, "recovered", "u2")(Recovered(a.l, a.all))
	wantList(t, "sites", pair("s1", "1/2"), pair("s2", "1/2"))(BySite(a.l, a.all))
	wantList(t, "values", 7, 7, 11, 8)(Values(a.l, a.all, "volt"))
	wantSpread(t, "spread", whole(4), whole(5))(Spread(a.values))
	wantChart(t, a.values, 2, whole(4), whole(4), big.NewRat(-88, 25), big.NewRat(288, 25))
	wantList[int](t, "signals")(Signals(a.values, 2))
	wantTighter(t, a.l, a.all, "volt", 1, 7, 7, true)
	wantText(t, a.l, a.all, plainText(four()))
	if bin, test, e := Bin(a.l, a.all[1]); e != api.OK || bin != 6 || test != 1 {
		t.Error(bin, test, e)
	}
	if is, e := Able(a.values, -4, 12, fraction(1, 1)); e != api.OK || !is {
		t.Error(is, e)
	}
}

// sameSpare reports whether two lists of records are the same, and what is behind them and their results.
func sameSpare(x, y []api.Record) bool {
	if !sameRecords(x[:len(x)+2], y[:len(y)+2]) {
		return false
	}
	return slices.EqualFunc(x, y, func(x, y api.Record) bool {
		long := len(x.Results) + 2
		return slices.Equal(x.Results[:long], y.Results[:long])
	})
}

func TestArgumentsStay(t *testing.T) {
	a, b := givenArguments(), givenArguments()
	useAll(t, a)
	if !slices.Equal(a.l[:4], b.l[:4]) || !slices.Equal(a.values[:6], b.values[:6]) {
		t.Error("changed", a)
	}
	if !sameSpare(a.all, b.all) || !sameSpare(a.a, b.a) || !sameSpare(a.b, b.b) {
		t.Error("changed", a)
	}
}

// spoil changes a result, and what is behind it.
func spoil[T any](list []T, bad T) {
	list = list[:cap(list)]
	for i := range list {
		list[i] = bad
	}
}

// spoilRecords changes the results of records first.
func spoilRecords(r []api.Record) {
	for _, one := range r {
		spoil(one.Results, -9)
	}
	spoil(r, api.Record{})
}

func TestResultsAreNew(t *testing.T) {
	a := givenArguments()
	for _, lists := range [][2][]api.Record{{a.a, a.b}, {a.all, nil}, {nil, a.all}, {a.all, a.all}} {
		merged, _ := Merge(a.l, lists[0], lists[1])
		spoilRecords(merged)
	}
	final, _ := Final(a.l, a.all, api.RetestBest)
	spoil(final, api.Pair{})
	recovered, _ := Recovered(a.l, a.all)
	spoil(recovered, "")
	for _, test := range []string{"volt", "amp"} {
		values, _ := Values(a.l, a.all, test)
		spoil(values, -9)
	}
	signals, _ := Signals(a.values, 2)
	spoil(signals, -9)
	useAll(t, a)
	read, _, _ := Read(a.l, plainText(four()))
	spoil(read[0].Results, -9)
	if !sameRecords(read[1:], four()[1:]) {
		t.Error("shared", read)
	}
}

func TestFunctionsRunAtOnce(t *testing.T) {
	a := givenArguments()
	var all sync.WaitGroup
	for range 8 {
		all.Go(func() {
			for range 20 {
				useAll(t, a)
			}
		})
	}
	all.Wait()
}

func TestLargeArgumentsReturn(t *testing.T) {
	const most = 200_000
	for name, call := range withRecords {
		if isZero, e := call(make([]api.Limit, most), nil); e != api.ErrLarge || !isZero {
			t.Errorf("%s: %t %v", name, isZero, e)
		}
		if isZero, e := call(two(), make([]api.Record, most)); e != api.ErrLarge || !isZero {
			t.Errorf("%s: %t %v", name, isZero, e)
		}
		if isZero, e := call(two(), []api.Record{record("u", 0, "s", make([]int, most)...)}); e != api.ErrForm || !isZero {
			t.Errorf("%s: %t %v", name, isZero, e)
		}
	}
	for _, text := range []string{strings.Repeat("\n", most), strings.Repeat(" ", most-1) + "\n", strings.Repeat("u", most-1) + "\n", "u 1 s" + strings.Repeat(" 1", most/2-10) + "\n"} {
		if r, _, e := Read(two(), text); e == api.OK || len(r) != 0 {
			t.Error(text[:10], e)
		}
	}
	// The most tests and records there can be.
	l := many(100)
	var r []api.Record
	for i := range 5_000 {
		r = append(r, record("u", i, "s", make([]int, 100)...))
	}
	for name, call := range withRecords {
		if _, e := call(l, r); e == api.ErrForm {
			t.Errorf("%s: %v", name, e)
		}
	}
	wantFraction(t, "all are good", whole(1))(Through(l, r))
	wantTighter(t, l, r, "t99", 5_000, 0, 0, true)
}
