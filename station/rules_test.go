package station

import (
	"fmt"
	"slices"
	"strings"
	"sync"
	"testing"

	"scanchain/api"
)

// spare returns a list with elements that are not valid in the memory behind it.
func spare[T any](bad T, good ...T) []T {
	return append(slices.Clone(good), bad, bad)[:len(good)]
}

type arguments struct {
	f         api.Flow
	all, a, b []api.Entry
}

func givenArguments() arguments {
	l := failing()
	bad := api.Entry{Kind: -1}
	return arguments{
		f:   api.Flow{Steps: spare("", two().Steps...), Tries: 2},
		all: spare(bad, l...),
		a:   spare(bad, l[3:9]...),
		b:   spare(bad, slices.Concat(l[:5], l[7:])...),
	}
}

const script = "at 9\ncounts\nwaiting scan\nrunning\nboard b2\npass scan\nnext\n"

func useAll(t *testing.T, a arguments) {
	t.Helper()
	wantList(t, "merge", failing()...)(Merge(a.a, a.b))
	wantWritten(t, a.all, enterOf("b", 0, 21), 5)
	wantList(t, "counting", 0, 1, 2, 3, 4, 5, 6, 7, 8, 10, 11, 12)(Counting(a.all, 20))
	if indices, reasons, e := Refused(a.f, a.all, 20); e != api.OK || !slices.Equal(indices, []int{3}) || !slices.Equal(reasons, []api.Errno{api.ErrFull}) {
		t.Error(indices, reasons, e)
	}
	wantValue(t, "of", api.Status{State: api.BoardRuns, Since: 10, Step: "scan", Site: "a", Failed: 1}, api.OK)(Of(a.f, a.all, "b1", 20))
	wantList(t, "waiting", "b1", "b2")(Waiting(a.f, a.all, "scan", 1))
	wantList(t, "running", pair("b", "b2"))(Running(a.f, a.all, 17))
	wantList(t, "counts", countsOf(0, 0, 0, 1, 1)...)(Counts(a.f, a.all, 19))
	wantValue(t, "pass", fraction(1, 2), api.OK)(Pass(a.f, a.all, "scan", 20))
	wantValue(t, "rolled", fraction(1, 2), api.OK)(Rolled(a.f, a.all, 20))
	wantList(t, "times", 3, 2, 2)(Times(a.f, a.all, "scan", 19))
	wantBusy(t, a.f, a.all, "a", 4, 30, 21)
	wantOldest(t, a.f, a.all, 20, "b1", 10, true)
	wantList(t, "next", pair("scan", "b1"), pair("flash", "b2"))(Next(a.f, a.all, 9))
	wantValue(t, "console", "ok\nwaits 2\nruns 0\nfailed 0\ndone 0\nscrapped 0\nb1\nwaits flash 9\n1/2\nscan b1\nflash b2\n", api.OK)(Console(a.f, a.all, script))
	wantText(t, a.all, plainText(failing()))
}

func TestArgumentsStay(t *testing.T) {
	a, b := givenArguments(), givenArguments()
	useAll(t, a)
	if !slices.Equal(a.f.Steps[:4], b.f.Steps[:4]) {
		t.Error("changed", a.f)
	}
	for _, lists := range [][2][]api.Entry{{a.all, b.all}, {a.a, b.a}, {a.b, b.b}} {
		if more := len(lists[0]) + 2; !slices.Equal(lists[0][:more], lists[1][:more]) {
			t.Error("changed", lists[0])
		}
	}
}

// spoil changes a result, and what is behind it.
func spoil[T any](list []T, bad T) {
	list = list[:cap(list)]
	for i := range list {
		list[i] = bad
	}
}

func TestResultsAreNew(t *testing.T) {
	a := givenArguments()
	for _, lists := range [][2][]api.Entry{{a.a, a.b}, {a.all, nil}, {nil, a.all}, {a.all, a.all}} {
		merged, _ := Merge(lists[0], lists[1])
		spoil(merged, api.Entry{})
	}
	written, _ := Write(a.all, enterOf("b", 0, 21))
	spoil(written, api.Entry{})
	written, _ = Write(a.all[:5], enterOf("b", 0, 21))
	spoil(written, api.Entry{})
	indices, _ := Counting(a.all, 20)
	spoil(indices, -1)
	refused, reasons, _ := Refused(a.f, a.all, 20)
	spoil(refused, -1)
	spoil(reasons, -1)
	names, _ := Waiting(a.f, a.all, "scan", 1)
	spoil(names, "")
	running, _ := Running(a.f, a.all, 17)
	counts, _ := Counts(a.f, a.all, 19)
	next, _ := Next(a.f, a.all, 9)
	for _, pairs := range [][]api.Pair{running, counts, next} {
		spoil(pairs, api.Pair{})
	}
	times, _ := Times(a.f, a.all, "scan", 19)
	spoil(times, -1)
	read, _, _ := Read(plainText(a.all))
	spoil(read, api.Entry{})
	useAll(t, a)
}

func TestFunctionsRunAtOnce(t *testing.T) {
	a := givenArguments()
	var all sync.WaitGroup
	for range 8 {
		all.Go(func() {
			for range 20 {
				useAll(t, a)
			}
		})
	}
	all.Wait()
}

func TestLargeArgumentsReturn(t *testing.T) {
	const most = 200_000
	for name, call := range withEntries() {
		if isZero, e := call(make([]api.Entry, most)); e != api.ErrLarge || !isZero {
			t.Errorf("%s: %t %v", name, isZero, e)
		}
		if isZero, e := call([]api.Entry{enterOf(strings.Repeat("a", most), 1, 1)}); e != api.ErrName || !isZero {
			t.Errorf("%s: %t %v", name, isZero, e)
		}
	}
	for name, call := range withFlows {
		if isZero, e := call(api.Flow{Steps: make([]string, most)}, nil, 0); e != api.ErrLarge || !isZero {
			t.Errorf("%s: %t %v", name, isZero, e)
		}
	}
	for name, call := range withoutMoments {
		if isZero, e := call(api.Flow{Steps: make([]string, most)}, nil); e != api.ErrLarge || !isZero {
			t.Errorf("%s: %t %v", name, isZero, e)
		}
	}
	for _, text := range []string{strings.Repeat("a", most-1) + "\n", strings.Repeat(" ", most-1) + "\n", strings.Repeat("a ", most/2-1) + "\n"} {
		wantNotRead(t, text[:10], text, api.ErrSyntax, 0)
	}
}

func TestTheMostEntries(t *testing.T) {
	f := api.Flow{Steps: steps(20), Tries: 10}
	l := enters(2_000)
	l[1_999] = start("a", 2_000, 1_999, "b0", "t0")
	wantList(t, "one starts", pair("a", "b0"))(Running(f, l, end))
	wantOldest(t, f, l, end, "b1", 1, true)
	wantList(t, "the first one", pair("t0", "b1"))(Next(f, l, end))
	waiting, e := Waiting(f, l, "t0", end)
	if e != api.OK || len(waiting) != 1_998 {
		t.Error(len(waiting), e)
	}
	text, e := Console(f, l, strings.Repeat(fmt.Sprintln("at", 1_998), 100)+strings.Repeat("waiting t0\n", 50)+strings.Repeat("next\n", 50))
	if want := strings.Repeat("ok\n", 100) + strings.Repeat("b"+strings.Join(numbersTo(1_999), "\nb")+"\n", 50) + strings.Repeat("t0 b0\n", 50); e != api.OK || text != want {
		t.Error(len(text), len(want), e)
	}
}

// numbersTo returns the numbers before one.
func numbersTo(end int) []string {
	var numbers []string
	for i := range end {
		numbers = append(numbers, fmt.Sprint(i))
	}
	return numbers
}
