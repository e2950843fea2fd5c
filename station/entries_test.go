package station

import (
	"fmt"
	"math/rand/v2"
	"slices"
	"testing"

	"scanchain/api"
)

func TestMerge(t *testing.T) {
	l := failing()
	wantList[api.Entry](t, "nothing")(Merge(nil, []api.Entry{}))
	wantList(t, "one list", l...)(Merge(l, nil))
	wantList(t, "the other one", l...)(Merge(nil, l))
	wantList(t, "equal lists", l...)(Merge(l, l))
	wantList(t, "some of both", l...)(Merge(l[:7], l[4:]))
	wantList(t, "the later ones first", l...)(Merge(l[6:], l[:6]))
	a, b := enterOf("a", 1, 5), enterOf("b", 1, 5)
	wantList(t, "by site", a, b)(Merge([]api.Entry{b}, []api.Entry{a}))
	wantList(t, "by number", enterOf("a", 1, 5), enterOf("a", 2, 5), enterOf("a", 10, 5))(Merge([]api.Entry{enterOf("a", 2, 5)}, []api.Entry{enterOf("a", 1, 5), enterOf("a", 10, 5)}))
	wantList(t, "by moment first", enterOf("b", 9, 4), a)(Merge([]api.Entry{a}, []api.Entry{enterOf("b", 9, 4)}))
}

func TestMergeConflict(t *testing.T) {
	x, u := start("a", 3, 5, "b", "scan"), undo("a", 4, 6, "c", 7)
	l := []api.Entry{enterOf("a", 1, 1), x, u, enterOf("z", 1, 9)}
	for _, other := range []api.Entry{
		start("a", 3, 4, "b", "scan"), start("a", 3, 5, "c", "scan"), start("a", 3, 5, "b", "flash"), entry("a", 3, 5, api.EntryPass, "b"),
		undo("a", 4, 6, "d", 7), undo("a", 4, 6, "c", 8), undo("a", 4, 7, "c", 7),
	} {
		for _, lists := range [][2][]api.Entry{{l, {other}}, {{other}, l}} {
			if merged, e := Merge(lists[0], lists[1]); e != api.ErrConflict || len(merged) != 0 {
				t.Error(other, merged, e)
			}
		}
	}
	wantList(t, "another number", append(slices.Clone(l), start("a", 5, 9_999, "b", "scan"))...)(Merge(l, []api.Entry{start("a", 5, 9_999, "b", "scan")}))
}

func TestMergeSize(t *testing.T) {
	all := enters(2_001)
	wantList(t, "most", all[:2_000]...)(Merge(all[:2_000], all[700:2_000]))
	for _, lists := range [][2][]api.Entry{{all[:2_000], all[2_000:]}, {all[1:], all[:1]}, {all[:2_000], all[1:]}} {
		if merged, e := Merge(lists[0], lists[1]); e != api.ErrLarge || len(merged) != 0 {
			t.Error(len(merged), e)
		}
	}
	other := slices.Clone(all[1:])
	other[0].Board = "c"
	if merged, e := Merge(all[:2_000], other); e != api.ErrConflict || len(merged) != 0 {
		t.Error("a conflict before the size", len(merged), e)
	}
}

func TestMergedListsDoNotDependOnTheOrder(t *testing.T) {
	randomCases(200, func(r *rand.Rand, _ api.Flow, l []api.Entry, _ int) {
		var a, b []api.Entry
		for _, x := range l {
			which := r.IntN(3)
			if which != 0 {
				a = append(a, x)
			}
			if which != 1 {
				b = append(b, x)
			}
		}
		wantList(t, "a and b", l...)(Merge(a, b))
		wantList(t, "b and a", l...)(Merge(b, a))
	})
}

// wantWritten wants an entry to be written at the end of others, with a number.
func wantWritten(t *testing.T, l []api.Entry, x api.Entry, no int) {
	t.Helper()
	want := x
	want.No = no
	wantList(t, fmt.Sprint(l, x), append(slices.Clone(l), want)...)(Write(l, x))
}

func TestWrite(t *testing.T) {
	wantWritten(t, nil, enterOf("a", 0, 0), 1)
	wantWritten(t, nil, undo("a", 0, api.End-1, "c", 9), 1)
	wantWritten(t, failing(), start("a", 0, 21, "b1", "scan"), 9)
	wantWritten(t, failing(), enterOf("b", 0, 21), 5)
	wantWritten(t, failing(), enterOf("c", 0, 20), 2)
	wantWritten(t, failing(), enterOf("d", 0, 20), 1)
	late := []api.Entry{enterOf("a", 7, 1), enterOf("a", 3, 2), enterOf("b", 900, 3)}
	wantWritten(t, late, enterOf("a", 0, 4), 8)
	wantWritten(t, []api.Entry{enterOf("a", 999_999, 4)}, enterOf("a", 0, 4), 1_000_000)
	wantWritten(t, enters(1_999), enterOf("a", 0, 5_000), 2_000)
}

func TestWriteErrors(t *testing.T) {
	last := []api.Entry{enterOf("b", 5, 7)}
	for _, c := range []struct {
		name string
		want api.Errno
		l    []api.Entry
		x    api.Entry
	}{
		{"a number", api.ErrForm, last, enterOf("b", 6, 8)},
		{"a number below", api.ErrForm, last, enterOf("b", -1, 8)},
		{"a number before a name", api.ErrForm, last, enterOf("B", 1, 8)},
		{"no number left", api.ErrArg, []api.Entry{enterOf("b", 1_000_000, 7)}, enterOf("b", 0, 8)},
		{"no number left before a kind", api.ErrArg, []api.Entry{enterOf("b", 1_000_000, 7)}, entry("b", 0, 8, 9, "b")},
		{"no number left before the order", api.ErrArg, []api.Entry{enterOf("b", 1_000_000, 7)}, enterOf("b", 0, 6)},
		{"an earlier moment", api.ErrOrder, last, enterOf("c", 0, 6)},
		{"an earlier site", api.ErrOrder, last, enterOf("a", 0, 7)},
		{"an earlier number", api.ErrOrder, []api.Entry{enterOf("b", 9, 1), enterOf("c", 1, 1)}, enterOf("b", 0, 1)},
		{"full", api.ErrLarge, enters(2_000), enterOf("a", 0, 5_000)},
		{"the order before the size", api.ErrOrder, enters(2_000), enterOf("a", 0, 1_000)},
		{"a name before the order", api.ErrName, last, enterOf("A", 0, 6)},
	} {
		if l, e := Write(c.l, c.x); e != c.want || len(l) != 0 {
			t.Errorf("%s: %v, not %v", c.name, e, c.want)
		}
	}
	for _, c := range badEntry {
		if c.want == api.ErrArg && c.x.Kind != api.EntryUndo && c.x.At >= 0 && c.x.At < api.End {
			continue // its number is what is wrong, and Write gives another one
		}
		x := c.x
		x.No = 0
		for _, l := range [][]api.Entry{nil, {enterOf("z", 1, 9)}, enters(2_000)} {
			if l, e := Write(l, x); e != c.want || len(l) != 0 {
				t.Errorf("%s: %v, not %v", c.name, e, c.want)
			}
		}
	}
}

func TestWrittenListsAreValid(t *testing.T) {
	randomCases(100, func(r *rand.Rand, _ api.Flow, l []api.Entry, _ int) {
		site := fmt.Sprint("s", 6+r.IntN(6))
		written, e := Write(l, undo(site, 0, 1_000, "s7", 1))
		if e == api.OK {
			e = CheckEntries(written)
		}
		if e != api.OK || len(written) != len(l)+1 {
			t.Error(l, site, e)
		}
	})
}

func TestCounting(t *testing.T) {
	at := func(at int) ([]int, api.Errno) { return Counting(failing(), at) }
	wantList(t, "the first moment", 0)(at(0))
	wantList(t, "before the undo", 0, 1, 2, 3, 4, 5, 6, 7, 8, 9, 10, 11)(at(19))
	wantList(t, "undone", 0, 1, 2, 3, 4, 5, 6, 7, 8, 10, 11, 12)(at(20))
	wantList(t, "the last moment", 0, 1, 2, 3, 4, 5, 6, 7, 8, 10, 11, 12)(at(api.End - 1))
	wantList[int](t, "nothing")(Counting(nil, 0))
	wantList[int](t, "nothing yet")(Counting([]api.Entry{enterOf("a", 1, 5)}, 4))
	x, u := enterOf("a", 1, 1), undo("b", 1, 2, "a", 1)
	wantList(t, "the undo is undone", 0, 2)(Counting([]api.Entry{x, u, undo("a", 2, 3, "b", 1)}, 3))
	wantList(t, "and undone again", 1, 3)(Counting([]api.Entry{x, u, undo("a", 2, 3, "b", 1), undo("a", 3, 4, "a", 2)}, 4))
	wantList(t, "undone twice", 1, 2)(Counting([]api.Entry{x, u, undo("c", 1, 3, "a", 1)}, 3))
	wantList(t, "one of two is undone", 2, 3)(Counting([]api.Entry{x, u, undo("c", 1, 3, "a", 1), undo("c", 2, 4, "b", 1)}, 4))
	wantList(t, "a later one", 0, 1)(Counting([]api.Entry{undo("a", 1, 1, "b", 9), enterOf("b", 9, 2)}, 9))
	wantList(t, "a later one of the moment", 0, 1)(Counting([]api.Entry{undo("a", 1, 1, "b", 9), enterOf("b", 9, 1)}, 1))
	wantList(t, "an earlier one of the moment", 1)(Counting([]api.Entry{enterOf("a", 9, 1), undo("b", 1, 1, "a", 9)}, 1))
	wantList(t, "itself", 0)(Counting([]api.Entry{undo("a", 1, 1, "a", 1)}, 1))
	wantList(t, "nothing there", 0, 1)(Counting([]api.Entry{enterOf("a", 1, 1), undo("a", 2, 2, "a", 3)}, 2))
	wantList(t, "another site", 0, 1)(Counting([]api.Entry{enterOf("a", 1, 1), undo("a", 2, 2, "b", 1)}, 2))
	randomCases(300, func(_ *rand.Rand, _ api.Flow, l []api.Entry, at int) {
		wantList(t, fmt.Sprint(l, at), plainCounting(l, at)...)(Counting(l, at))
	})
}

func TestCountingOfManyUndos(t *testing.T) {
	l := []api.Entry{enterOf("a", 1, 0)}
	var odd []int
	for i := 1; i < 2_000; i++ {
		l = append(l, undo("a", i+1, i, "a", i))
		if i%2 == 1 {
			odd = append(odd, i)
		}
	}
	wantList(t, "each one undoes the one before", odd...)(Counting(l, api.End-1))
}
