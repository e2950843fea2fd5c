package station

import (
	"fmt"
	"math/rand/v2"
	"slices"
	"testing"

	"scanchain/api"
)

const end = api.End - 1

// numbered gives entries numbers and moments that rise.
func numbered(l ...api.Entry) []api.Entry {
	for i := range l {
		l[i].No, l[i].At = 1+i, 10*i
	}
	return l
}

func does(site string, kind int, board string) api.Entry { return entry(site, 0, 0, kind, board) }

func starts(site, board, step string) api.Entry { return start(site, 0, 0, board, step) }

// ways are the entries that lead a board b to each state; site s runs it.
var ways = map[string][]api.Entry{
	"nothing":         nil,
	"waits":           {does("s", api.EntryEnter, "b")},
	"runs":            {does("s", api.EntryEnter, "b"), starts("s", "b", "scan")},
	"failed":          {does("s", api.EntryEnter, "b"), starts("s", "b", "scan"), does("s", api.EntryFail, "b")},
	"waits again":     {does("s", api.EntryEnter, "b"), starts("s", "b", "scan"), does("s", api.EntryFail, "b"), does("s", api.EntryRepair, "b")},
	"failed twice":    {does("s", api.EntryEnter, "b"), starts("s", "b", "scan"), does("s", api.EntryFail, "b"), does("s", api.EntryRepair, "b"), starts("s", "b", "scan"), does("s", api.EntryFail, "b")},
	"waits for flash": {does("s", api.EntryEnter, "b"), starts("s", "b", "scan"), does("s", api.EntryPass, "b")},
	"done":            {does("s", api.EntryEnter, "b"), starts("s", "b", "scan"), does("s", api.EntryPass, "b"), starts("s", "b", "flash"), does("s", api.EntryPass, "b")},
	"scrapped":        {does("s", api.EntryEnter, "b"), does("s", api.EntryScrap, "b")},
}

// after returns the entries that lead to a state, and some more.
func after(way string, more ...api.Entry) []api.Entry {
	return numbered(slices.Concat(ways[way], more)...)
}

func TestRefused(t *testing.T) {
	const ok, twice, none, state, form, conflict = api.OK, api.ErrTwice, api.ErrNone, api.ErrState, api.ErrForm, api.ErrConflict
	tries := []api.Entry{
		does("s", api.EntryEnter, "b"), starts("s", "b", "scan"), starts("s", "b", "flash"), starts("s", "b", "other"),
		does("s", api.EntryPass, "b"), does("z", api.EntryFail, "b"), does("z", api.EntryRepair, "b"), does("z", api.EntryScrap, "b"),
	}
	for way, want := range map[string][]api.Errno{
		"nothing":         {ok, none, none, none, none, none, none, none},
		"waits":           {twice, ok, form, form, state, state, state, ok},
		"runs":            {twice, state, state, state, ok, conflict, state, ok},
		"failed":          {twice, state, state, state, state, state, ok, ok},
		"waits again":     {twice, ok, form, form, state, state, state, ok},
		"failed twice":    {twice, state, state, state, state, state, state, state},
		"waits for flash": {twice, form, ok, form, state, state, state, ok},
		"done":            {twice, state, state, state, state, state, state, state},
		"scrapped":        {twice, state, state, state, state, state, state, state},
	} {
		for i, x := range tries {
			wantRefused(t, two(), after(way, x), len(ways[way]), want[i])
		}
	}
}

// wantRefused wants the last one alone of some entries to be refused, for a reason; OK if it is not.
func wantRefused(t *testing.T, f api.Flow, l []api.Entry, last int, want api.Errno) {
	t.Helper()
	var indices []int
	var reasons []api.Errno
	if want != api.OK {
		indices, reasons = []int{last}, []api.Errno{want}
	}
	got, why, e := Refused(f, l, end)
	if e != api.OK || !slices.Equal(got, indices) || !slices.Equal(why, reasons) {
		t.Errorf("%v: %v %v %v, not %v %v", l, got, why, e, indices, reasons)
	}
}

func TestRefusedSites(t *testing.T) {
	enter := does("s", api.EntryEnter, "c")
	for name, c := range map[string]struct {
		want api.Errno
		l    []api.Entry
	}{
		"the site runs":           {api.ErrFull, after("runs", enter, starts("s", "c", "scan"))},
		"another site does not":   {api.OK, after("runs", enter, starts("z", "c", "scan"))},
		"a form before the site":  {api.ErrForm, after("runs", enter, starts("s", "c", "flash"))},
		"free after a fail":       {api.OK, after("failed", enter, starts("s", "c", "scan"))},
		"free after a pass":       {api.OK, after("waits for flash", enter, starts("s", "c", "scan"))},
		"free after a scrap":      {api.OK, after("runs", does("z", api.EntryScrap, "b"), enter, starts("s", "c", "scan"))},
		"taken after a fail":      {api.ErrFull, after("failed", enter, starts("s", "c", "scan"), does("z", api.EntryRepair, "b"), starts("s", "b", "scan"))},
		"another board's site":    {api.ErrConflict, after("runs", enter, starts("z", "c", "scan"), does("z", api.EntryPass, "b"))},
		"scrapped by its site":    {api.OK, after("runs", does("s", api.EntryScrap, "b"))},
		"passes on another site":  {api.ErrConflict, after("runs", does("t", api.EntryPass, "b"))},
		"fails on another site":   {api.ErrConflict, after("runs", does("t", api.EntryFail, "b"))},
		"a board that is not in":  {api.ErrNone, after("runs", starts("s", "c", "other"))},
		"passes, and is not in":   {api.ErrNone, after("runs", does("z", api.EntryPass, "c"))},
		"repaired, and is not in": {api.ErrNone, after("failed", does("z", api.EntryRepair, "c"))},
		"undo":                    {api.OK, after("runs", undo("s", 0, 0, "none", 7))},
		"undo of nothing":         {api.OK, after("nothing", undo("s", 0, 0, "s", 1))},
	} {
		t.Run(name, func(t *testing.T) { wantRefused(t, two(), c.l, len(c.l)-1, c.want) })
	}
}

func TestRefusedChangesNothing(t *testing.T) {
	for way, entries := range ways {
		for _, x := range []api.Entry{
			does("z", api.EntryEnter, "b"), starts("z", "b", "other"), does("z", api.EntryPass, "b"), does("z", api.EntryFail, "b"), does("z", api.EntryPass, "c"),
		} {
			if x.Kind == api.EntryEnter && len(entries) == 0 {
				continue
			}
			want, wantError := Of(two(), after(way), "b", end)
			wantValue(t, way, want, wantError)(Of(two(), after(way, x), "b", end))
		}
	}
}

func TestRefusedUpToAMoment(t *testing.T) {
	l := numbered(does("s", api.EntryScrap, "b"), does("s", api.EntryEnter, "b"), does("s", api.EntryEnter, "b"), undo("s", 0, 0, "s", 2))
	for at, want := range map[int][]int{0: {0}, 10: {0}, 19: {0}, 20: {0, 2}, 29: {0, 2}, 30: {0}} {
		got, reasons, e := Refused(two(), l, at)
		if e != api.OK || !slices.Equal(got, want) || len(reasons) != len(want) {
			t.Error(at, got, reasons, e)
		}
	}
	got, reasons, e := Refused(two(), nil, 0)
	if e != api.OK || len(got) != 0 || len(reasons) != 0 {
		t.Error(got, reasons, e)
	}
}

func TestRefusedIsPlain(t *testing.T) {
	seen := map[string]int{}
	randomCases(400, func(_ *rand.Rand, f api.Flow, l []api.Entry, at int) {
		_, want, reasons := plainTaken(f, l, at)
		got, why, e := Refused(f, l, at)
		if e != api.OK || !slices.Equal(got, want) || !slices.Equal(why, reasons) {
			t.Error(f, l, at, got, why, e, want, reasons)
		}
		for i, index := range want {
			seen[fmt.Sprint(l[index].Kind, reasons[i])]++
		}
	})
	if len(seen) < 13 {
		t.Error("few reasons", seen)
	}
}

func TestOf(t *testing.T) {
	for way, want := range map[string]api.Status{
		"waits":           {State: api.BoardWaits, Since: 0, Step: "scan"},
		"runs":            {State: api.BoardRuns, Since: 10, Step: "scan", Site: "s"},
		"failed":          {State: api.BoardFailed, Since: 20, Step: "scan", Failed: 1},
		"waits again":     {State: api.BoardWaits, Since: 30, Step: "scan", Failed: 1},
		"failed twice":    {State: api.BoardScrapped, Since: 50, Step: "scan", Failed: 2},
		"waits for flash": {State: api.BoardWaits, Since: 20, Step: "flash"},
		"done":            {State: api.BoardDone, Since: 40},
		"scrapped":        {State: api.BoardScrapped, Since: 10, Step: "scan"},
	} {
		wantValue(t, way, want, api.OK)(Of(two(), after(way), "b", end))
		wantValue(t, way, want, api.OK)(Of(two(), after(way), "b", 10*(len(ways[way])-1)))
	}
	scrap := does("z", api.EntryScrap, "b")
	wantValue(t, "scrapped while it runs", api.Status{State: api.BoardScrapped, Since: 20, Step: "scan"}, api.OK)(Of(two(), after("runs", scrap), "b", end))
	wantValue(t, "scrapped after a fail", api.Status{State: api.BoardScrapped, Since: 30, Step: "scan", Failed: 1}, api.OK)(Of(two(), after("failed", scrap), "b", end))
	wantValue(t, "scrapped before flash", api.Status{State: api.BoardScrapped, Since: 30, Step: "flash"}, api.OK)(Of(two(), after("waits for flash", scrap), "b", end))
	wantValue(t, "runs again", api.Status{State: api.BoardRuns, Since: 40, Step: "scan", Site: "z", Failed: 1}, api.OK)(Of(two(), after("waits again", starts("z", "b", "scan")), "b", end))
	wantValue(t, "passes after a fail", api.Status{State: api.BoardWaits, Since: 50, Step: "flash"}, api.OK)(Of(two(), after("waits again", starts("z", "b", "scan"), does("z", api.EntryPass, "b")), "b", end))
	wantValue(t, "fails another step", api.Status{State: api.BoardFailed, Since: 70, Step: "flash", Failed: 1}, api.OK)(Of(two(), after("waits again", starts("z", "b", "scan"), does("z", api.EntryPass, "b"), starts("s", "b", "flash"), does("s", api.EntryFail, "b")), "b", end))
	once, often := api.Flow{Steps: []string{"scan"}, Tries: 1}, api.Flow{Steps: []string{"scan"}, Tries: 3}
	wantValue(t, "one try", api.Status{State: api.BoardScrapped, Since: 20, Step: "scan", Failed: 1}, api.OK)(Of(once, after("failed"), "b", end))
	wantValue(t, "three tries", api.Status{State: api.BoardFailed, Since: 50, Step: "scan", Failed: 2}, api.OK)(Of(often, after("failed twice"), "b", end))
	wantValue(t, "one step", api.Status{State: api.BoardDone, Since: 20}, api.OK)(Of(once, after("waits for flash"), "b", end))
}

func TestOfMoments(t *testing.T) {
	for at, want := range map[int]api.Status{
		0:  {State: api.BoardWaits, Since: 0, Step: "scan"},
		4:  {State: api.BoardRuns, Since: 2, Step: "scan", Site: "a"},
		11: {State: api.BoardRuns, Since: 10, Step: "scan", Site: "a", Failed: 1},
		12: {State: api.BoardScrapped, Since: 12, Step: "scan", Failed: 2},
		19: {State: api.BoardScrapped, Since: 12, Step: "scan", Failed: 2},
		20: {State: api.BoardRuns, Since: 10, Step: "scan", Site: "a", Failed: 1},
	} {
		wantValue(t, fmt.Sprint(at), want, api.OK)(Of(two(), failing(), "b1", at))
	}
	wantValue(t, "not yet", api.Status{}, api.ErrNone)(Of(two(), failing(), "b2", 0))
}

func TestOfErrors(t *testing.T) {
	for _, name := range []string{"", "B1", "1b", "b 1", long} {
		wantValue(t, name, api.Status{}, api.ErrName)(Of(two(), failing(), name, end))
	}
	for _, name := range []string{"b", "b3", "a", "scan"} {
		wantValue(t, name, api.Status{}, api.ErrNone)(Of(two(), failing(), name, end))
	}
	wantValue(t, "refused", api.Status{}, api.ErrNone)(Of(two(), numbered(starts("s", "b", "scan")), "b", end))
	wantValue(t, "undone", api.Status{}, api.ErrNone)(Of(two(), numbered(does("s", api.EntryEnter, "b"), undo("s", 0, 0, "s", 1)), "b", end))
}

func TestOfIsPlain(t *testing.T) {
	seen := map[int]int{}
	randomCases(400, func(_ *rand.Rand, f api.Flow, l []api.Entry, at int) {
		taken, _, _ := plainTaken(f, l, at)
		for _, x := range l {
			if x.Kind == api.EntryUndo {
				continue
			}
			want, e := plainStatus(f, taken, x.Board), api.OK
			if want.State == 0 {
				e = api.ErrNone
			}
			seen[want.State]++
			wantValue(t, fmt.Sprint(f, l, x.Board, at), want, e)(Of(f, l, x.Board, at))
		}
	})
	for state := range 6 {
		if seen[state] < 50 {
			t.Error("few boards", state, seen)
		}
	}
}

// many is boards that wait, run and fail.
func many() []api.Entry {
	return []api.Entry{
		entry("s", 1, 0, api.EntryEnter, "d"), entry("s", 2, 0, api.EntryEnter, "c"), entry("s", 3, 0, api.EntryEnter, "x"),
		entry("s", 4, 1, api.EntryEnter, "a"), entry("t", 1, 1, api.EntryEnter, "b10"), entry("t", 2, 1, api.EntryEnter, "b9"),
		start("u", 1, 2, "d", "scan"), start("s10", 1, 3, "c", "scan"), start("s9", 1, 3, "x", "scan"),
		entry("u", 2, 4, api.EntryFail, "d"), entry("s10", 2, 5, api.EntryPass, "c"), entry("s", 5, 6, api.EntryEnter, "y"),
		entry("u", 3, 7, api.EntryRepair, "d"), start("a", 1, 8, "c", "flash"), start("s10", 3, 9, "a", "scan"),
	}
}

func TestWaiting(t *testing.T) {
	at := func(step string, at int) ([]string, api.Errno) { return Waiting(two(), many(), step, at) }
	wantList(t, "of a moment", "c", "d", "x")(at("scan", 0))
	wantList(t, "by moment, then by name", "c", "d", "x", "a", "b10", "b9")(at("scan", 1))
	wantList(t, "one runs", "c", "x", "a", "b10", "b9")(at("scan", 2))
	wantList(t, "a failed one", "a", "b10", "b9", "y")(at("scan", 6))
	wantList(t, "a repaired one", "a", "b10", "b9", "y", "d")(at("scan", 7))
	wantList(t, "at the end", "b10", "b9", "y", "d")(at("scan", end))
	wantList[string](t, "none for flash")(at("flash", 4))
	wantList(t, "flash", "c")(at("flash", 5))
	wantList[string](t, "none any more")(at("flash", end))
	wantList[string](t, "nothing")(Waiting(two(), nil, "flash", 0))
	for _, step := range []string{"", "other", "scan ", "Scan", "s", "a", long} {
		if names, e := at(step, end); e != api.ErrNone || len(names) != 0 {
			t.Error(step, names, e)
		}
	}
	randomCases(200, func(_ *rand.Rand, f api.Flow, l []api.Entry, at int) {
		taken, _, _ := plainTaken(f, l, at)
		for _, step := range f.Steps {
			wantList(t, fmt.Sprint(f, l, step, at), plainByAge(f, taken, step, api.BoardWaits)...)(Waiting(f, l, step, at))
		}
	})
}

func TestRunning(t *testing.T) {
	at := func(at int) ([]api.Pair, api.Errno) { return Running(two(), many(), at) }
	wantList[api.Pair](t, "none")(at(1))
	wantList(t, "one", pair("u", "d"))(at(2))
	wantList(t, "by site", pair("s10", "c"), pair("s9", "x"), pair("u", "d"))(at(3))
	wantList(t, "at the end", pair("a", "c"), pair("s10", "a"), pair("s9", "x"))(at(end))
	randomCases(200, func(_ *rand.Rand, f api.Flow, l []api.Entry, at int) {
		taken, _, _ := plainTaken(f, l, at)
		var want []api.Pair
		for _, name := range plainByAge(f, taken, "", api.BoardRuns) {
			want = append(want, pair(plainStatus(f, taken, name).Site, name))
		}
		slices.SortFunc(want, func(x, y api.Pair) int { return slices.Compare([]byte(x.Name), []byte(y.Name)) })
		got, e := Running(f, l, at)
		wantList(t, fmt.Sprint(f, l, at), want...)(got, e)
		for i := range len(got) - 1 {
			if got[i].Name == got[i+1].Name {
				t.Error("a site runs two boards", got)
			}
		}
	})
}

// countsOf is the pairs with the numbers of boards in each state.
func countsOf(waits, runs, failed, done, scrapped int) []api.Pair {
	return []api.Pair{pair("waits", waits), pair("runs", runs), pair("failed", failed), pair("done", done), pair("scrapped", scrapped)}
}

func TestCounts(t *testing.T) {
	at := func(at int) ([]api.Pair, api.Errno) { return Counts(two(), many(), at) }
	wantList(t, "nothing", countsOf(0, 0, 0, 0, 0)...)(Counts(two(), nil, 0))
	wantList(t, "three", countsOf(3, 0, 0, 0, 0)...)(at(0))
	wantList(t, "one failed", countsOf(5, 1, 1, 0, 0)...)(at(6))
	wantList(t, "at the end", countsOf(4, 3, 0, 0, 0)...)(at(end))
	wantList(t, "before the undo", countsOf(0, 0, 0, 1, 1)...)(Counts(two(), failing(), 19))
	wantList(t, "after the undo", countsOf(0, 1, 0, 1, 0)...)(Counts(two(), failing(), 20))
	wantList(t, "most", countsOf(2_000, 0, 0, 0, 0)...)(Counts(two(), enters(2_000), end))
	randomCases(200, func(_ *rand.Rand, f api.Flow, l []api.Entry, at int) {
		taken, _, _ := plainTaken(f, l, at)
		var counts [6]int
		for _, name := range namesOf(taken) {
			counts[plainStatus(f, taken, name).State]++
		}
		wantList(t, fmt.Sprint(f, l, at), countsOf(counts[1], counts[2], counts[3], counts[4], counts[5])...)(Counts(f, l, at))
	})
}

func wantOldest(t *testing.T, f api.Flow, l []api.Entry, at int, name string, since int, is bool) {
	t.Helper()
	if gotName, gotSince, gotIs, e := Oldest(f, l, at); e != api.OK || gotName != name || gotSince != since || gotIs != is {
		t.Errorf("%v %v %d: %q %d %t %v, not %q %d %t", f, l, at, gotName, gotSince, gotIs, e, name, since, is)
	}
}

func TestOldest(t *testing.T) {
	wantOldest(t, two(), nil, end, "", 0, false)
	wantOldest(t, two(), many(), 0, "c", 0, true)
	wantOldest(t, two(), many(), 2, "c", 0, true)
	wantOldest(t, two(), many(), 3, "a", 1, true)
	wantOldest(t, two(), many(), 9, "b10", 1, true)
	wantOldest(t, two(), failing(), 19, "", 0, false)
	wantOldest(t, two(), failing(), 17, "b2", 13, true)
	wantOldest(t, two(), failing(), 20, "b1", 10, true)
	wantOldest(t, two(), after("failed"), end, "b", 20, true)
	wantOldest(t, two(), after("scrapped", does("s", api.EntryEnter, "c")), end, "c", 20, true)
	wantOldest(t, two(), after("done", does("s", api.EntryEnter, "c")), end, "c", 50, true)
	wantOldest(t, two(), after("done"), end, "", 0, false)
	randomCases(200, func(_ *rand.Rand, f api.Flow, l []api.Entry, at int) {
		taken, _, _ := plainTaken(f, l, at)
		names := plainByAge(f, taken, "", api.BoardWaits, api.BoardRuns, api.BoardFailed)
		if len(names) == 0 {
			wantOldest(t, f, l, at, "", 0, false)
			return
		}
		wantOldest(t, f, l, at, names[0], plainStatus(f, taken, names[0]).Since, true)
	})
}

func TestNext(t *testing.T) {
	at := func(at int) ([]api.Pair, api.Errno) { return Next(two(), many(), at) }
	wantList(t, "one step", pair("scan", "c"))(at(1))
	wantList(t, "both steps", pair("scan", "a"), pair("flash", "c"))(at(7))
	wantList(t, "at the end", pair("scan", "b10"))(at(end))
	wantList[api.Pair](t, "nothing")(Next(two(), nil, end))
	wantList[api.Pair](t, "nothing waits")(Next(two(), failing(), end))
	wantList(t, "one of each step", pair("scan", "b1"), pair("flash", "b2"))(Next(two(), failing(), 9))
	other := api.Flow{Steps: []string{"scan", "a", "z"}, Tries: 1}
	wantList(t, "steps in the order of the flow", pair("scan", "d"), pair("a", "c"), pair("z", "b"))(Next(other, numbered(
		does("s", api.EntryEnter, "b"), does("s", api.EntryEnter, "c"), does("s", api.EntryEnter, "d"),
		starts("s", "b", "scan"), does("s", api.EntryPass, "b"), starts("s", "b", "a"), does("s", api.EntryPass, "b"),
		starts("s", "c", "scan"), does("s", api.EntryPass, "c"),
	), end))
	randomCases(200, func(_ *rand.Rand, f api.Flow, l []api.Entry, at int) {
		taken, _, _ := plainTaken(f, l, at)
		var want []api.Pair
		for _, step := range f.Steps {
			if names := plainByAge(f, taken, step, api.BoardWaits); len(names) > 0 {
				want = append(want, pair(step, names[0]))
			}
		}
		wantList(t, fmt.Sprint(f, l, at), want...)(Next(f, l, at))
	})
}

// withoutUndone are the entries that count, without all undos.
func withoutUndone(l []api.Entry, at int) []api.Entry {
	var left []api.Entry
	for _, i := range plainCounting(l, at) {
		if l[i].Kind != api.EntryUndo {
			left = append(left, l[i])
		}
	}
	return left
}

func TestAnUndoneEntryChangesNothing(t *testing.T) {
	undone := 0
	randomCases(300, func(_ *rand.Rand, f api.Flow, l []api.Entry, at int) {
		left := withoutUndone(l, at)
		undone += len(l) - len(left)
		counts, _ := Counts(f, left, at)
		wantList(t, fmt.Sprint("counts", f, l, at), counts...)(Counts(f, l, at))
		running, _ := Running(f, left, at)
		wantList(t, fmt.Sprint("running", f, l, at), running...)(Running(f, l, at))
		for _, step := range f.Steps {
			waiting, _ := Waiting(f, left, step, at)
			wantList(t, fmt.Sprint("waiting", f, l, at), waiting...)(Waiting(f, l, step, at))
			times, _ := Times(f, left, step, at)
			wantList(t, fmt.Sprint("times", f, l, at), times...)(Times(f, l, step, at))
			part, e := Pass(f, left, step, at)
			wantValue(t, fmt.Sprint("pass", f, l, at), part, e)(Pass(f, l, step, at))
		}
	})
	if undone < 300 {
		t.Error("few are undone", undone)
	}
}
