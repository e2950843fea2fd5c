package station

import (
	"cmp"
	"fmt"
	"math/big"
	"math/rand/v2"
	"slices"
	"testing"

	"scanchain/api"
)

// two is a flow of two steps.
func two() api.Flow { return api.Flow{Steps: []string{"scan", "flash"}, Tries: 2} }

func entry(site string, no, at, kind int, board string) api.Entry {
	return api.Entry{Site: site, No: no, At: at, Kind: kind, Board: board}
}

func start(site string, no, at int, board, step string) api.Entry {
	return api.Entry{Site: site, No: no, At: at, Kind: api.EntryStart, Board: board, Step: step}
}

func undo(site string, no, at int, of string, other int) api.Entry {
	return api.Entry{Site: site, No: no, At: at, Kind: api.EntryUndo, Of: of, Other: other}
}

// failing is the document's example: b1 fails a step, is repaired, and fails it again; then this is undone. b2 passes all steps.
func failing() []api.Entry {
	return []api.Entry{
		entry("a", 1, 0, api.EntryEnter, "b1"), entry("a", 2, 1, api.EntryEnter, "b2"),
		start("a", 3, 2, "b1", "scan"), start("a", 4, 3, "b2", "scan"),
		entry("a", 5, 5, api.EntryFail, "b1"), entry("a", 6, 6, api.EntryRepair, "b1"),
		start("b", 1, 7, "b2", "scan"), entry("b", 2, 9, api.EntryPass, "b2"),
		start("a", 7, 10, "b1", "scan"), entry("a", 8, 12, api.EntryFail, "b1"),
		start("b", 3, 13, "b2", "flash"), entry("b", 4, 18, api.EntryPass, "b2"),
		undo("c", 1, 20, "a", 8),
	}
}

func fraction(num, den int) api.Fraction { return api.Fraction{Num: num, Den: den} }

func pair(name string, value any) api.Pair {
	return api.Pair{Name: name, Value: fmt.Sprint(value)}
}

// plainCounts reports whether an entry counts, by the words of the document.
func plainCounts(l []api.Entry, i, at int) bool {
	if l[i].At > at {
		return false
	}
	for j := i + 1; j < len(l); j++ {
		x := l[j]
		if x.Kind == api.EntryUndo && x.Of == l[i].Site && x.Other == l[i].No && plainCounts(l, j, at) {
			return false
		}
	}
	return true
}

func plainCounting(l []api.Entry, at int) []int {
	var indices []int
	for i := range l {
		if plainCounts(l, i, at) {
			indices = append(indices, i)
		}
	}
	return indices
}

// plainStatus is the status of a board, from all of its entries that were not refused.
func plainStatus(f api.Flow, taken []api.Entry, name string) api.Status {
	passes := 0
	var s api.Status
	for _, x := range taken {
		if x.Board != name {
			continue
		}
		s.Since, s.Site = x.At, ""
		switch x.Kind {
		case api.EntryEnter, api.EntryRepair:
			s.State = api.BoardWaits
		case api.EntryStart:
			s.State, s.Site = api.BoardRuns, x.Site
		case api.EntryPass:
			s.State, s.Failed = api.BoardWaits, 0
			passes++
		case api.EntryFail:
			s.State = api.BoardFailed
			s.Failed++
		case api.EntryScrap:
			s.State = api.BoardScrapped
		}
	}
	switch {
	case passes == len(f.Steps):
		s.State = api.BoardDone
	case s.State != 0:
		s.Step = f.Steps[passes]
	}
	if s.Failed == f.Tries {
		s.State = api.BoardScrapped
	}
	return s
}

// namesOf are the boards that have entered, by name.
func namesOf(taken []api.Entry) []string {
	var names []string
	for _, x := range taken {
		if x.Kind == api.EntryEnter {
			names = append(names, x.Board)
		}
	}
	slices.Sort(names)
	return names
}

// plainRuns reports whether a site runs a board.
func plainRuns(f api.Flow, taken []api.Entry, site string) bool {
	return slices.ContainsFunc(namesOf(taken), func(name string) bool {
		return plainStatus(f, taken, name).Site == site
	})
}

// cause is a reason to refuse an entry, and whether it applies.
type cause struct {
	e  api.Errno
	is bool
}

// plainCauses are all reasons to refuse an entry after those that were not, in the document's order.
func plainCauses(f api.Flow, taken []api.Entry, x api.Entry) []cause {
	s := plainStatus(f, taken, x.Board)
	none := cause{api.ErrNone, s.State == 0}
	switch x.Kind {
	case api.EntryEnter:
		return []cause{{api.ErrTwice, s.State != 0}}
	case api.EntryStart:
		return []cause{none, {api.ErrState, s.State != api.BoardWaits}, {api.ErrForm, s.Step != x.Step}, {api.ErrFull, plainRuns(f, taken, x.Site)}}
	case api.EntryPass, api.EntryFail:
		return []cause{none, {api.ErrState, s.State != api.BoardRuns}, {api.ErrConflict, s.Site != x.Site}}
	case api.EntryRepair:
		return []cause{none, {api.ErrState, s.State != api.BoardFailed}}
	case api.EntryScrap:
		return []cause{none, {api.ErrState, s.State == api.BoardDone || s.State == api.BoardScrapped}}
	}
	return nil
}

func plainReason(f api.Flow, taken []api.Entry, x api.Entry) api.Errno {
	for _, c := range plainCauses(f, taken, x) {
		if c.is {
			return c.e
		}
	}
	return api.OK
}

// plainTaken is the entries that count and are not refused, and the indices of the refused ones with the reasons.
func plainTaken(f api.Flow, l []api.Entry, at int) (taken []api.Entry, refused []int, reasons []api.Errno) {
	for _, i := range plainCounting(l, at) {
		if e := plainReason(f, taken, l[i]); e != api.OK {
			refused, reasons = append(refused, i), append(reasons, e)
			continue
		}
		taken = append(taken, l[i])
	}
	return taken, refused, reasons
}

// plainByAge is the boards in some states, those first whose state has lasted longest.
func plainByAge(f api.Flow, taken []api.Entry, step string, states ...int) []string {
	var names []string
	for _, name := range namesOf(taken) {
		if s := plainStatus(f, taken, name); slices.Contains(states, s.State) && (step == "" || step == s.Step) {
			names = append(names, name)
		}
	}
	slices.SortStableFunc(names, func(x, y string) int {
		return plainStatus(f, taken, x).Since - plainStatus(f, taken, y).Since
	})
	return names
}

// plainRun is a start, and the entry that ended it, if there is one.
type plainRun struct {
	start, end api.Entry
}

// plainRunsOf is all runs, in the order of their ends; those that have not ended are last.
func plainRunsOf(taken []api.Entry) []plainRun {
	var runs []plainRun
	for j, end := range taken {
		for i := j - 1; i >= 0; i-- {
			if taken[i].Board != end.Board {
				continue
			}
			if taken[i].Kind == api.EntryStart {
				runs = append(runs, plainRun{taken[i], end})
			}
			break
		}
	}
	for i, x := range taken {
		if x.Kind == api.EntryStart && !slices.ContainsFunc(taken[i+1:], func(y api.Entry) bool { return y.Board == x.Board }) {
			runs = append(runs, plainRun{start: x})
		}
	}
	return runs
}

// plainEnded is the runs of a step that ended with a pass or a fail.
func plainEnded(taken []api.Entry, step string) []plainRun {
	return slices.DeleteFunc(plainRunsOf(taken), func(r plainRun) bool {
		return r.start.Step != step || r.end.Kind != api.EntryPass && r.end.Kind != api.EntryFail
	})
}

// plainPass is the first-pass yield of a step, and nil if there is none.
func plainPass(taken []api.Entry, step string) *big.Rat {
	passed := int64(0)
	var names []string
	for _, r := range plainEnded(taken, step) {
		if !slices.Contains(names, r.end.Board) {
			names = append(names, r.end.Board)
			if r.end.Kind == api.EntryPass {
				passed++
			}
		}
	}
	if names == nil {
		return nil
	}
	return big.NewRat(passed, int64(len(names)))
}

// plainRolled is the product of the yields of all steps, and nil if one has none.
func plainRolled(f api.Flow, taken []api.Entry) *big.Rat {
	product := big.NewRat(1, 1)
	for _, step := range f.Steps {
		part := plainPass(taken, step)
		if part == nil {
			return nil
		}
		product.Mul(product, part)
	}
	return product
}

// plainBusy counts the milliseconds at which a site runs a board.
func plainBusy(f api.Flow, l []api.Entry, site string, w api.Window) int {
	taken, _, _ := plainTaken(f, l, w.To-1)
	busy := 0
	for at := w.From; at < w.To; at++ {
		for _, r := range plainRunsOf(taken) {
			if r.start.Site == site && r.start.At <= at && (r.end.Kind == 0 || at < r.end.At) {
				busy++
			}
		}
	}
	return busy
}

func plainText(l []api.Entry) string {
	names := []string{"", "enter", "start", "pass", "fail", "repair", "scrap", "undo"}
	text := ""
	for _, x := range l {
		text += fmt.Sprint(x.Site, " ", x.No, " ", x.At, " ", names[x.Kind])
		switch x.Kind {
		case api.EntryUndo:
			text += fmt.Sprint(" ", x.Of, " ", x.Other)
		case api.EntryStart:
			text += " " + x.Board + " " + x.Step
		default:
			text += " " + x.Board
		}
		text += "\n"
	}
	return text
}

func randomFlow(r *rand.Rand) api.Flow {
	steps := []string{"scan", "flash", "burn-in", "final"}
	r.Shuffle(len(steps), func(i, j int) { steps[i], steps[j] = steps[j], steps[i] })
	return api.Flow{Steps: steps[:1+r.IntN(3)], Tries: 1 + r.IntN(3)}
}

// likely returns an entry that is not refused most of the time.
func likely(r *rand.Rand, f api.Flow, taken []api.Entry, site, board string) api.Entry {
	s := plainStatus(f, taken, board)
	kind := []int{api.EntryEnter, api.EntryStart, api.EntryPass, api.EntryRepair, 1 + r.IntN(6), 1 + r.IntN(6)}[s.State]
	switch {
	case kind == api.EntryPass && r.IntN(5) < 2:
		kind = api.EntryFail
	case r.IntN(20) == 0:
		kind = 1 + r.IntN(6)
	}
	x := api.Entry{Site: site, Kind: kind, Board: board}
	if s.State == api.BoardRuns && r.IntN(10) > 0 {
		x.Site = s.Site
	}
	if kind == api.EntryStart {
		x.Step = s.Step
		if x.Step == "" || r.IntN(15) == 0 {
			x.Step = []string{"scan", "flash", "other"}[r.IntN(3)]
		}
	}
	return x
}

// randomUndo returns an undo of one of some entries, or of none.
func randomUndo(r *rand.Rand, l []api.Entry, site string) api.Entry {
	x := undo(site, 0, 0, "s1", 1+r.IntN(9))
	if len(l) > 0 && r.IntN(10) > 0 {
		aim := l[len(l)-1-r.IntN(min(len(l), 5))]
		x.Of, x.Other = aim.Site, aim.No
	}
	return x
}

// randomEntries returns entries that are in order; the numbers of a site are not.
func randomEntries(r *rand.Rand, f api.Flow, most int) []api.Entry {
	var l, taken []api.Entry
	numbers := map[string][]int{}
	for range 4 {
		numbers[fmt.Sprint("s", len(numbers)+7)] = r.Perm(most)
	}
	at, boards := 0, 1+r.IntN(6)
	for range r.IntN(most + 1) {
		site, board := fmt.Sprint("s", 7+r.IntN(4)), fmt.Sprint("b", 9+r.IntN(boards))
		x := likely(r, f, taken, site, board)
		if r.IntN(12) == 0 {
			x = randomUndo(r, l, site)
		}
		x.No = 1 + numbers[x.Site][0]
		numbers[x.Site] = numbers[x.Site][1:]
		at += r.IntN(3)
		x.At = at
		if last := len(l) - 1; last >= 0 && order(l[last], x) >= 0 {
			at++
			x.At = at
		}
		l = append(l, x)
		taken, _, _ = plainTaken(f, l, at)
	}
	return l
}

// order compares entries, for sorting.
func order(x, y api.Entry) int {
	return cmp.Or(x.At-y.At, cmp.Compare(x.Site, y.Site), x.No-y.No)
}

// randomCases calls do with a flow, entries and a moment.
func randomCases(count int, do func(r *rand.Rand, f api.Flow, l []api.Entry, at int)) {
	r := rand.New(rand.NewPCG(10, 1))
	for range count {
		f := randomFlow(r)
		l := randomEntries(r, f, 40)
		at := 0
		if len(l) > 0 {
			at = r.IntN(l[len(l)-1].At + 2)
		}
		if r.IntN(2) == 0 {
			at = api.End - 1
		}
		do(r, f, l, at)
	}
}

// wantList reports a list or an error that is not the one that is wanted.
func wantList[T comparable](t *testing.T, name string, want ...T) func(got []T, e api.Errno) {
	return func(got []T, e api.Errno) {
		t.Helper()
		if e != api.OK || !slices.Equal(got, want) {
			t.Errorf("%s: %v %v, not %v", name, got, e, want)
		}
	}
}

// wantValue reports a value or an error that is not the one that is wanted.
func wantValue[T comparable](t *testing.T, name string, want T, wantError api.Errno) func(got T, e api.Errno) {
	return func(got T, e api.Errno) {
		t.Helper()
		if e != wantError || got != want {
			t.Errorf("%s: %v %v, not %v %v", name, got, e, want, wantError)
		}
	}
}
