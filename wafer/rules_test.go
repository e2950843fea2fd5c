package wafer

import (
	"slices"
	"strings"
	"sync"
	"testing"

	"scanchain/api"
)

// spare returns a list with elements that are not valid in the memory behind it.
func spare[T any](bad T, good ...T) []T {
	return append(slices.Clone(good), bad, bad)[:len(good)]
}

type arguments struct {
	w, other     api.Wafer
	card, points []api.Point
}

func givenArguments() arguments {
	return arguments{
		w:      waferWith("1", spare("!", "1xx?", "1x*?", "..1?")...),
		other:  waferWith("1", spare("!", "??x?", "1??x", ".?1?")...),
		card:   spare(at(-1, -1), at(0, 0), at(0, 1)),
		points: spare(at(9_999, 0), at(0, 0), at(5, 0), at(1, 1), at(3, 0)),
	}
}

func useAll(t *testing.T, a arguments) {
	t.Helper()
	wantCounts(t, a.w, 1, 3, api.Pair{Name: "1", Value: "3"}, api.Pair{Name: "x", Value: "3"})
	wantYield(t, a.w, fraction(3, 7), true)
	wantFailed(t, a.w, at(2, 1), 3)
	wantClusters(t, a.w, 2, []api.Point{at(1, 0), at(2, 0), at(1, 1)})
	wantInk(t, a.w, 2, 2, waferWith("1", "*xx?", "*x*?", "..1?"))
	wantList(t, "edge", at(0, 0), at(1, 0), at(2, 0), at(3, 0), at(0, 1), at(1, 1), at(2, 1), at(3, 1), at(2, 2), at(3, 2))(Edge(a.w))
	wantRings(t, a.w, []api.Fraction{fraction(3, 7)}, []bool{true})
	wantList(t, "repeats", at(1, 0), at(1, 1))(Repeats(a.w, 2, 2, fraction(1, 1)))
	wantWafer(t, "turned", waferWith("1", ".11", ".xx", "1*x", "???"))(Turned(a.w))
	wantWafer(t, "merge", waferWith("1", "1xx?", "1x*x", "..1?"))(Merge(a.w, a.other))
	wantList(t, "changes", at(0, 0), at(1, 0), at(1, 1), at(2, 1), at(3, 1), at(1, 2))(Changes(a.w, a.other))
	wantTouched(t, a.w, a.card, at(3, 1), 0, at(3, 1), at(3, 2))
	wantRows(t, a.w, a.card, 0, at(3, 0), at(3, 2))
	wantFewest(t, a.w, a.card, true, at(3, -1), at(3, 1))
	wantRoute(t, a.points, 5, 0, 2, 3, 1)
	wantText(t, a.w, plainText(a.w))
	if e := CheckWafer(a.w); e != api.OK {
		t.Error(e)
	}
	if e := CheckCard(a.card); e != api.OK {
		t.Error(e)
	}
}

func TestArgumentsStay(t *testing.T) {
	a, b := givenArguments(), givenArguments()
	useAll(t, a)
	if !slices.Equal(a.w.Rows[:5], b.w.Rows[:5]) || !slices.Equal(a.other.Rows[:5], b.other.Rows[:5]) {
		t.Error("changed", a)
	}
	if !slices.Equal(a.card[:4], b.card[:4]) || !slices.Equal(a.points[:6], b.points[:6]) {
		t.Error("changed", a)
	}
}

// spoil changes a result, and what is behind it.
func spoil[T any](list []T, bad T) {
	list = list[:cap(list)]
	for i := range list {
		list[i] = bad
	}
}

func TestResultsAreNew(t *testing.T) {
	a := givenArguments()
	inked, _, _ := Ink(a.w, 8)
	turned, _ := Turned(a.w)
	merged, _ := Merge(a.w, a.w)
	for _, w := range []api.Wafer{inked, turned, merged} {
		spoil(w.Rows, "!")
	}
	groups, _ := Clusters(a.other, 1)
	last := groups[len(groups)-1]
	want := slices.Clone(last)
	for _, group := range groups[:len(groups)-1] {
		spoil(group, at(-1, -1))
	}
	if !slices.Equal(last, want) {
		t.Error("groups share memory", last)
	}
	parts, has, _ := Rings(a.w)
	spoil(parts, api.Fraction{})
	spoil(has, false)
	touched, _, _ := Touched(a.w, a.card, at(3, 0))
	rows, _, _ := Rows(a.w, a.card)
	fewest, _, _ := Fewest(a.w, a.card)
	edge, _ := Edge(a.w)
	repeats, _ := Repeats(a.w, 2, 2, fraction(0, 1))
	changes, _ := Changes(a.w, a.other)
	for _, list := range [][]api.Point{touched, rows, fewest, edge, repeats, changes} {
		spoil(list, at(-1, -1))
	}
	order, _, _ := Route(a.points)
	spoil(order, -1)
	pairs, _, _, _ := Counts(a.w)
	spoil(pairs, api.Pair{})
	read, _, _ := Read(plainText(a.w))
	spoil(read.Rows, "!")
	useAll(t, a)
}

func TestFunctionsRunAtOnce(t *testing.T) {
	a := givenArguments()
	var all sync.WaitGroup
	for range 8 {
		all.Go(func() {
			for range 20 {
				useAll(t, a)
			}
		})
	}
	all.Wait()
}

func TestLargeArgumentsReturn(t *testing.T) {
	const most = 200_000
	long := strings.Repeat("1", most)
	for name, call := range withWafers {
		for what, c := range map[string]struct {
			w    api.Wafer
			want api.Errno
		}{
			"rows":   {api.Wafer{Rows: make([]string, most)}, api.ErrLarge},
			"a row":  {waferWith("1", long), api.ErrLarge},
			"passes": {waferWith(long, "1"), api.ErrOrder},
		} {
			if isZero, e := call(c.w); e != c.want || !isZero {
				t.Errorf("%s, %s: %t %v", name, what, isZero, e)
			}
		}
	}
	for name, call := range withCards {
		if isZero, e := call(make([]api.Point, most)); e != api.ErrLarge || !isZero {
			t.Errorf("%s: %t %v", name, isZero, e)
		}
	}
	if order, sum, e := Route(make([]api.Point, most)); e != api.ErrLarge || sum != 0 || len(order) != 0 {
		t.Error(len(order), sum, e)
	}
	for _, w := range []api.Wafer{filled(60, 60, "x"), filled(60, 60, "1"), filled(60, 60, "."), filled(60, 60, "?")} {
		for name, call := range withWafers {
			if _, e := call(w); e == api.ErrLarge {
				t.Errorf("%s: %v", name, e)
			}
		}
	}
}
