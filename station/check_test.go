package station

import (
	"fmt"
	"math"
	"strings"
	"testing"

	"scanchain/api"
)

// steps returns the names of so many steps.
func steps(count int) []string {
	var names []string
	for i := range count {
		names = append(names, fmt.Sprint("t", i))
	}
	return names
}

var badFlows = []struct {
	name string
	want api.Errno
	f    api.Flow
}{
	{"no steps", api.ErrNone, api.Flow{Tries: 1}},
	{"nothing", api.ErrNone, api.Flow{}},
	{"many steps", api.ErrLarge, api.Flow{Steps: steps(21), Tries: 1}},
	{"many steps before a bad one", api.ErrLarge, api.Flow{Steps: make([]string, 21)}},
	{"no name", api.ErrName, api.Flow{Steps: []string{"a", ""}, Tries: 1}},
	{"no key", api.ErrName, api.Flow{Steps: []string{"A"}, Tries: 1}},
	{"a long name", api.ErrName, api.Flow{Steps: []string{strings.Repeat("a", 41)}, Tries: 1}},
	{"no key twice", api.ErrName, api.Flow{Steps: []string{"1", "1"}, Tries: 1}},
	{"twice", api.ErrTwice, api.Flow{Steps: []string{"a", "b", "a"}, Tries: 1}},
	{"twice before a name", api.ErrTwice, api.Flow{Steps: []string{"a", "a", ""}, Tries: 1}},
	{"a name before twice", api.ErrName, api.Flow{Steps: []string{"a", "", "a"}, Tries: 1}},
	{"a name before the tries", api.ErrName, api.Flow{Steps: []string{""}, Tries: 0}},
	{"twice before the tries", api.ErrTwice, api.Flow{Steps: []string{"a", "a"}, Tries: 11}},
	{"no tries", api.ErrArg, api.Flow{Steps: []string{"a"}}},
	{"many tries", api.ErrArg, api.Flow{Steps: []string{"a"}, Tries: 11}},
	{"tries below", api.ErrArg, api.Flow{Steps: []string{"a"}, Tries: -1}},
	{"the least tries", api.ErrArg, api.Flow{Steps: []string{"a"}, Tries: math.MinInt}},
	{"the most tries", api.ErrArg, api.Flow{Steps: []string{"a"}, Tries: math.MaxInt}},
}

func TestCheckFlow(t *testing.T) {
	for _, f := range []api.Flow{
		two(),
		{Steps: []string{"a"}, Tries: 1},
		{Steps: steps(20), Tries: 10},
		{Steps: []string{strings.Repeat("a", 40), "a"}, Tries: 3},
	} {
		if e := CheckFlow(f); e != api.OK {
			t.Error(f, e)
		}
	}
	for _, c := range badFlows {
		if e := CheckFlow(c.f); e != c.want {
			t.Errorf("%s: %v, not %v", c.name, e, c.want)
		}
	}
}

// with returns an entry that is changed.
func with(x api.Entry, change func(x *api.Entry)) api.Entry {
	change(&x)
	return x
}

var long = strings.Repeat("a", 41)

// badEntry has entries that are not well formed, all with a number that is not 0.
var badEntry = []struct {
	name string
	want api.Errno
	x    api.Entry
}{
	{"nothing", api.ErrName, api.Entry{}},
	{"no site", api.ErrName, entry("", 1, 1, api.EntryEnter, "b")},
	{"a site that is no key", api.ErrName, entry("a b", 1, 1, api.EntryEnter, "b")},
	{"a long site", api.ErrName, entry(long, 1, 1, api.EntryEnter, "b")},
	{"a site before a number", api.ErrName, entry("A", -1, -1, 9, "")},
	{"a number below", api.ErrArg, entry("a", -1, 1, api.EntryEnter, "b")},
	{"a number above", api.ErrArg, entry("a", 1_000_001, 1, api.EntryEnter, "b")},
	{"the least number", api.ErrArg, entry("a", math.MinInt, 1, api.EntryEnter, "b")},
	{"the most", api.ErrArg, entry("a", math.MaxInt, 1, api.EntryEnter, "b")},
	{"no moment", api.ErrArg, entry("a", 1, -1, api.EntryEnter, "b")},
	{"the end", api.ErrArg, entry("a", 1, api.End, api.EntryEnter, "b")},
	{"the least moment", api.ErrArg, entry("a", 1, math.MinInt, api.EntryEnter, "b")},
	{"the most", api.ErrArg, entry("a", 1, math.MaxInt, api.EntryEnter, "b")},
	{"a moment before a kind", api.ErrArg, entry("a", 1, -1, 0, "b")},
	{"no kind", api.ErrKind, entry("a", 1, 1, 0, "b")},
	{"a kind above", api.ErrKind, entry("a", 1, 1, 8, "b")},
	{"the least kind", api.ErrKind, entry("a", 1, 1, math.MinInt, "b")},
	{"the most", api.ErrKind, entry("a", 1, 1, math.MaxInt, "b")},
	{"a kind before a name", api.ErrKind, entry("a", 1, 1, -1, "")},
	{"no board enters", api.ErrName, entry("a", 1, 1, api.EntryEnter, "")},
	{"no key enters", api.ErrName, entry("a", 1, 1, api.EntryEnter, "B")},
	{"a long board enters", api.ErrName, entry("a", 1, 1, api.EntryEnter, long)},
	{"no board starts", api.ErrName, start("a", 1, 1, "", "scan")},
	{"no board passes", api.ErrName, entry("a", 1, 1, api.EntryPass, "")},
	{"no board fails", api.ErrName, entry("a", 1, 1, api.EntryFail, "")},
	{"no board is repaired", api.ErrName, entry("a", 1, 1, api.EntryRepair, "")},
	{"no board is scrapped", api.ErrName, entry("a", 1, 1, api.EntryScrap, "")},
	{"no step", api.ErrName, start("a", 1, 1, "b", "")},
	{"a step that is no key", api.ErrName, start("a", 1, 1, "b", "-a")},
	{"a long step", api.ErrName, start("a", 1, 1, "b", long)},
	{"nothing is undone", api.ErrName, undo("a", 1, 1, "", 1)},
	{"no key is undone", api.ErrName, undo("a", 1, 1, "1a", 1)},
	{"a long site is undone", api.ErrName, undo("a", 1, 1, long, 1)},
	{"a name before the other number", api.ErrName, undo("a", 1, 1, "A", 0)},
	{"a name before more", api.ErrName, with(start("a", 1, 1, "b", ""), func(x *api.Entry) { x.Of = "c" })},
	{"no other number", api.ErrArg, undo("a", 1, 1, "b", 0)},
	{"another number below", api.ErrArg, undo("a", 1, 1, "b", -1)},
	{"another number above", api.ErrArg, undo("a", 1, 1, "b", 1_000_001)},
	{"the least other number", api.ErrArg, undo("a", 1, 1, "b", math.MinInt)},
	{"the most", api.ErrArg, undo("a", 1, 1, "b", math.MaxInt)},
	{"another number before more", api.ErrArg, with(undo("a", 1, 1, "b", 0), func(x *api.Entry) { x.Board = "b" })},
	{"undo with a board", api.ErrForm, with(undo("a", 1, 1, "b", 1), func(x *api.Entry) { x.Board = "b" })},
	{"undo with what is no board", api.ErrForm, with(undo("a", 1, 1, "b", 1), func(x *api.Entry) { x.Board = "B" })},
	{"undo with a step", api.ErrForm, with(undo("a", 1, 1, "b", 1), func(x *api.Entry) { x.Step = "scan" })},
	{"start with a site", api.ErrForm, with(start("a", 1, 1, "b", "scan"), func(x *api.Entry) { x.Of = "a" })},
	{"start with another number", api.ErrForm, with(start("a", 1, 1, "b", "scan"), func(x *api.Entry) { x.Other = -1 })},
	{"enter with a step", api.ErrForm, with(entry("a", 1, 1, api.EntryEnter, "b"), func(x *api.Entry) { x.Step = "scan" })},
	{"enter with a site", api.ErrForm, with(entry("a", 1, 1, api.EntryEnter, "b"), func(x *api.Entry) { x.Of = "a" })},
	{"enter with another number", api.ErrForm, with(entry("a", 1, 1, api.EntryEnter, "b"), func(x *api.Entry) { x.Other = 1 })},
	{"pass with a step", api.ErrForm, with(entry("a", 1, 1, api.EntryPass, "b"), func(x *api.Entry) { x.Step = "scan" })},
	{"fail with a site", api.ErrForm, with(entry("a", 1, 1, api.EntryFail, "b"), func(x *api.Entry) { x.Of = "a" })},
	{"repair with another number", api.ErrForm, with(entry("a", 1, 1, api.EntryRepair, "b"), func(x *api.Entry) { x.Other = 1 })},
	{"scrap with a step", api.ErrForm, with(entry("a", 1, 1, api.EntryScrap, "b"), func(x *api.Entry) { x.Step = "scan" })},
}

// enters returns so many entries of a site.
func enters(count int) []api.Entry {
	var l []api.Entry
	for i := range count {
		l = append(l, entry("a", 1+i, i, api.EntryEnter, fmt.Sprint("b", i)))
	}
	return l
}

func enterOf(site string, no, at int) api.Entry {
	return entry(site, no, at, api.EntryEnter, "b")
}

// badLists has entries that are wrong together.
var badLists = []struct {
	name string
	want api.Errno
	l    []api.Entry
}{
	{"many", api.ErrLarge, enters(2_001)},
	{"many before a bad one", api.ErrLarge, make([]api.Entry, 2_001)},
	{"a number 0", api.ErrArg, []api.Entry{enterOf("a", 0, 1)}},
	{"an earlier moment", api.ErrOrder, []api.Entry{enterOf("a", 1, 5), enterOf("b", 1, 4)}},
	{"an earlier site", api.ErrOrder, []api.Entry{enterOf("b", 1, 5), enterOf("a", 2, 5)}},
	{"an earlier number", api.ErrOrder, []api.Entry{enterOf("b", 2, 5), enterOf("b", 1, 5)}},
	{"the same place", api.ErrOrder, []api.Entry{enterOf("b", 1, 5), entry("b", 1, 5, api.EntryPass, "c")}},
	{"the order before a later name", api.ErrOrder, []api.Entry{enterOf("b", 2, 5), enterOf("b", 1, 4), enterOf("", 1, 6)}},
	{"a name before the order", api.ErrName, []api.Entry{enterOf("b", 2, 5), enterOf("", 1, 4)}},
	{"a form before the order", api.ErrForm, []api.Entry{enterOf("b", 2, 5), with(enterOf("b", 1, 4), func(x *api.Entry) { x.Step = "s" })}},
	{"twice", api.ErrTwice, []api.Entry{enterOf("a", 1, 1), enterOf("b", 1, 2), enterOf("a", 1, 3)}},
	{"undone twice", api.ErrTwice, []api.Entry{undo("a", 1, 1, "b", 7), undo("a", 1, 2, "b", 7)}},
	{"the order before twice", api.ErrOrder, []api.Entry{enterOf("a", 1, 1), enterOf("a", 1, 3), enterOf("b", 1, 2)}},
	{"a name before twice", api.ErrName, []api.Entry{enterOf("a", 1, 1), enterOf("a", 1, 3), enterOf("B", 1, 4)}},
}

func TestCheckEntries(t *testing.T) {
	for _, l := range [][]api.Entry{
		nil,
		failing(),
		enters(2_000),
		{enterOf(strings.Repeat("a", 40), 1_000_000, api.End-1)},
		{enterOf("a", 2, 0), enterOf("a", 10, 0), enterOf("b", 1, 0), enterOf("a", 1, 1)},
		{start("a", 1, 0, strings.Repeat("b", 40), strings.Repeat("c", 40)), undo("a", 2, 0, "a", 1_000_000), undo("a", 3, 0, "a", 3)},
	} {
		if e := CheckEntries(l); e != api.OK {
			t.Error(l, e)
		}
	}
	for _, c := range badEntry {
		for name, l := range map[string][]api.Entry{"alone": {c.x}, "after another one": {enterOf("a", 9, 0), c.x}, "before one that is wrong": {c.x, {Site: "A"}}} {
			if e := CheckEntries(l); e != c.want {
				t.Errorf("%s, %s: %v, not %v", c.name, name, e, c.want)
			}
		}
	}
	for _, c := range badLists {
		if e := CheckEntries(c.l); e != c.want {
			t.Errorf("%s: %v, not %v", c.name, e, c.want)
		}
	}
}

// withFlows has all functions with a flow: they return whether all results but the error are zero values. Their other arguments would be errors of their own.
var withFlows = map[string]func(f api.Flow, l []api.Entry, at int) (bool, api.Errno){
	"refused": func(f api.Flow, l []api.Entry, at int) (bool, api.Errno) {
		indices, reasons, e := Refused(f, l, at)
		return len(indices) == 0 && len(reasons) == 0, e
	},
	"of": func(f api.Flow, l []api.Entry, at int) (bool, api.Errno) {
		s, e := Of(f, l, "B", at)
		return s == api.Status{}, e
	},
	"waiting": func(f api.Flow, l []api.Entry, at int) (bool, api.Errno) {
		names, e := Waiting(f, l, "no-step", at)
		return len(names) == 0, e
	},
	"running": func(f api.Flow, l []api.Entry, at int) (bool, api.Errno) {
		pairs, e := Running(f, l, at)
		return len(pairs) == 0, e
	},
	"counts": func(f api.Flow, l []api.Entry, at int) (bool, api.Errno) {
		pairs, e := Counts(f, l, at)
		return len(pairs) == 0, e
	},
	"pass": func(f api.Flow, l []api.Entry, at int) (bool, api.Errno) {
		part, e := Pass(f, l, "no-step", at)
		return part == api.Fraction{}, e
	},
	"rolled": func(f api.Flow, l []api.Entry, at int) (bool, api.Errno) {
		part, e := Rolled(f, l, at)
		return part == api.Fraction{}, e
	},
	"times": func(f api.Flow, l []api.Entry, at int) (bool, api.Errno) {
		times, e := Times(f, l, "no-step", at)
		return len(times) == 0, e
	},
	"oldest": func(f api.Flow, l []api.Entry, at int) (bool, api.Errno) {
		name, since, is, e := Oldest(f, l, at)
		return name == "" && since == 0 && !is, e
	},
	"next": func(f api.Flow, l []api.Entry, at int) (bool, api.Errno) {
		pairs, e := Next(f, l, at)
		return len(pairs) == 0, e
	},
}

// withoutMoments has those that take no moment, as withFlows.
var withoutMoments = map[string]func(f api.Flow, l []api.Entry) (bool, api.Errno){
	"busy": func(f api.Flow, l []api.Entry) (bool, api.Errno) {
		busy, e := Busy(f, l, "A", api.Window{From: -1, To: -2})
		return busy == 0, e
	},
	"console": func(f api.Flow, l []api.Entry) (bool, api.Errno) {
		text, e := Console(f, l, strings.Repeat("x", 2_001))
		return text == "", e
	},
}

// withEntries has all functions with entries, as withFlows.
func withEntries() map[string]func(l []api.Entry) (bool, api.Errno) {
	calls := map[string]func(l []api.Entry) (bool, api.Errno){
		"check": func(l []api.Entry) (bool, api.Errno) { return true, CheckEntries(l) },
		"merge, first": func(l []api.Entry) (bool, api.Errno) {
			merged, e := Merge(l, []api.Entry{{Site: "A", No: -1}})
			return len(merged) == 0, e
		},
		"merge, second": func(l []api.Entry) (bool, api.Errno) {
			merged, e := Merge(enters(2_000), l)
			return len(merged) == 0, e
		},
		"write": func(l []api.Entry) (bool, api.Errno) {
			written, e := Write(l, api.Entry{Site: "A", No: 1})
			return len(written) == 0, e
		},
		"counting": func(l []api.Entry) (bool, api.Errno) {
			indices, e := Counting(l, -1)
			return len(indices) == 0, e
		},
		"text": func(l []api.Entry) (bool, api.Errno) {
			text, e := Text(l)
			return text == "", e
		},
	}
	for name, call := range withFlows {
		calls[name] = func(l []api.Entry) (bool, api.Errno) { return call(two(), l, -1) }
	}
	for name, call := range withoutMoments {
		calls[name] = func(l []api.Entry) (bool, api.Errno) { return call(two(), l) }
	}
	return calls
}

func TestFunctionsCheckTheFlowFirst(t *testing.T) {
	for _, c := range badFlows {
		for name, call := range withFlows {
			if isZero, e := call(c.f, make([]api.Entry, 2_001), -1); e != c.want || !isZero {
				t.Errorf("%s, %s: %t %v, not %v", name, c.name, isZero, e, c.want)
			}
		}
		for name, call := range withoutMoments {
			if isZero, e := call(c.f, make([]api.Entry, 2_001)); e != c.want || !isZero {
				t.Errorf("%s, %s: %t %v, not %v", name, c.name, isZero, e, c.want)
			}
		}
	}
}

func TestFunctionsCheckEntries(t *testing.T) {
	for name, call := range withEntries() {
		for _, c := range badEntry {
			if isZero, e := call([]api.Entry{c.x}); e != c.want || !isZero {
				t.Errorf("%s, %s: %t %v, not %v", name, c.name, isZero, e, c.want)
			}
		}
		for _, c := range badLists {
			if isZero, e := call(c.l); e != c.want || !isZero {
				t.Errorf("%s, %s: %t %v, not %v", name, c.name, isZero, e, c.want)
			}
		}
	}
}

func TestFunctionsCheckTheMoment(t *testing.T) {
	for _, at := range []int{-1, api.End, math.MinInt, math.MaxInt} {
		for name, call := range withFlows {
			if isZero, e := call(two(), failing(), at); e != api.ErrArg || !isZero {
				t.Errorf("%s, %d: %t %v", name, at, isZero, e)
			}
		}
		if indices, e := Counting(failing(), at); e != api.ErrArg || len(indices) != 0 {
			t.Error(at, indices, e)
		}
	}
}
