package station

import (
	"fmt"
	"math"
	"math/big"
	"math/rand/v2"
	"slices"
	"testing"

	"scanchain/api"
)

// wantPart wants a fraction that is equal to a number, and ErrNone if there is none.
func wantPart(t *testing.T, name string, want *big.Rat) func(got api.Fraction, e api.Errno) {
	t.Helper()
	if want == nil {
		return wantValue(t, name, api.Fraction{}, api.ErrNone)
	}
	return wantValue(t, name, fraction(int(want.Num().Int64()), int(want.Denom().Int64())), api.OK)
}

func TestPass(t *testing.T) {
	at := func(step string, at int) (api.Fraction, api.Errno) { return Pass(two(), failing(), step, at) }
	wantValue(t, "none yet", api.Fraction{}, api.ErrNone)(at("scan", 4))
	wantValue(t, "one failed", fraction(0, 1), api.OK)(at("scan", 5))
	wantValue(t, "and one passed", fraction(1, 2), api.OK)(at("scan", 9))
	wantValue(t, "a second fail", fraction(1, 2), api.OK)(at("scan", 19))
	wantValue(t, "flash is not ended", api.Fraction{}, api.ErrNone)(at("flash", 17))
	wantValue(t, "flash", fraction(1, 1), api.OK)(at("flash", 18))
	again := after("waits again", starts("s", "b", "scan"), does("s", api.EntryPass, "b"))
	wantValue(t, "passed at last", fraction(0, 1), api.OK)(Pass(two(), again, "scan", end))
	undone := after("waits again", starts("s", "b", "scan"), does("s", api.EntryPass, "b"), undo("s", 0, 0, "s", 3))
	wantValue(t, "the fail is undone", fraction(1, 1), api.OK)(Pass(two(), undone, "scan", end))
	scrapped := after("runs", does("s", api.EntryScrap, "b"))
	wantValue(t, "scrapped", api.Fraction{}, api.ErrNone)(Pass(two(), scrapped, "scan", end))
	refused := after("runs", does("t", api.EntryPass, "b"))
	wantValue(t, "refused", api.Fraction{}, api.ErrNone)(Pass(two(), refused, "scan", end))
	for _, step := range []string{"", "other", "Scan", long} {
		wantValue(t, step, api.Fraction{}, api.ErrNone)(at(step, end))
	}
	randomCases(300, func(_ *rand.Rand, f api.Flow, l []api.Entry, at int) {
		taken, _, _ := plainTaken(f, l, at)
		for _, step := range f.Steps {
			wantPart(t, fmt.Sprint(f, l, step, at), plainPass(taken, step))(Pass(f, l, step, at))
		}
	})
}

// factory is boards that come to steps: of all that come to a step, the first ones pass it, the others fail it, are repaired, and pass it then. To the next step come those that are left.
func factory(f api.Flow, come, first []int) []api.Entry {
	var l []api.Entry
	add := func(kind int, board, step string) {
		l = append(l, api.Entry{Site: "s", Kind: kind, Board: board, Step: step})
	}
	for board := range come[0] {
		add(api.EntryEnter, fmt.Sprint("b", board), "")
	}
	for i, step := range f.Steps {
		for board := range come[i] {
			name := fmt.Sprint("b", board)
			add(api.EntryStart, name, step)
			if board >= first[i] {
				add(api.EntryFail, name, "")
				add(api.EntryRepair, name, "")
				add(api.EntryStart, name, step)
			}
			add(api.EntryPass, name, "")
		}
	}
	return numbered(l...)
}

func TestRolled(t *testing.T) {
	wantValue(t, "no flash", api.Fraction{}, api.ErrNone)(Rolled(two(), failing(), 17))
	wantValue(t, "both", fraction(1, 2), api.OK)(Rolled(two(), failing(), 18))
	wantValue(t, "nothing", api.Fraction{}, api.ErrNone)(Rolled(two(), nil, end))
	wantValue(t, "one step", fraction(1, 2), api.OK)(Rolled(api.Flow{Steps: []string{"scan"}, Tries: 2}, failing(), 9))
	f := api.Flow{Steps: steps(3), Tries: 2}
	wantValue(t, "none of the last step", api.Fraction{}, api.ErrNone)(Rolled(f, factory(f, []int{6, 4, 0}, []int{4, 3, 0}), end))
	wantValue(t, "three", fraction(1, 3), api.OK)(Rolled(f, factory(f, []int{6, 4, 3}, []int{4, 3, 2}), end))
	wantValue(t, "all", fraction(1, 1), api.OK)(Rolled(f, factory(f, []int{6, 4, 3}, []int{6, 4, 3}), end))
	wantValue(t, "a 0 at first", fraction(0, 1), api.OK)(Rolled(f, factory(f, []int{6, 4, 3}, []int{0, 4, 2}), end))
	wantValue(t, "a 0 at last", fraction(0, 1), api.OK)(Rolled(f, factory(f, []int{6, 5, 3}, []int{5, 4, 0}), end))
	randomCases(300, func(_ *rand.Rand, f api.Flow, l []api.Entry, at int) {
		taken, _, _ := plainTaken(f, l, at)
		wantPart(t, fmt.Sprint(f, l, at), plainRolled(f, taken))(Rolled(f, l, at))
	})
}

// wantRolled wants the product of parts, and ErrFull if its Den is greater than 10^15.
func wantRolled(t *testing.T, come, first []int) (isFull bool) {
	t.Helper()
	f := api.Flow{Steps: steps(len(come)), Tries: 2}
	product := big.NewRat(1, 1)
	for i := range come {
		product.Mul(product, big.NewRat(int64(first[i]), int64(come[i])))
	}
	part, e := Rolled(f, factory(f, come, first), end)
	if product.Denom().Cmp(big.NewInt(1_000_000_000_000_000)) > 0 {
		wantValue(t, fmt.Sprint(come, first), api.Fraction{}, api.ErrFull)(part, e)
		return true
	}
	wantPart(t, fmt.Sprint(come, first), product)(part, e)
	return false
}

func TestRolledIsTooLarge(t *testing.T) {
	tens := func(count int) []int { return slices.Repeat([]int{10}, count) }
	sevens := func(count int) []int { return slices.Repeat([]int{7}, count) }
	for _, c := range []struct {
		come, first []int
		isFull      bool
	}{
		{tens(15), sevens(15), false}, // 10^15
		{tens(16), sevens(16), true},
		{append(tens(15), 3), append(sevens(15), 1), true},                             // 3 * 10^15
		{append(tens(15), 7), append(sevens(15), 2), false},                            // one 7 less, and none more
		{append(tens(15), 10), append(sevens(15), 0), false},                           // 0
		{append(tens(16), 10), append(append([]int{0}, sevens(15)...), 1), false},      // 0 at first
		{append([]int{10}, tens(15)...), append([]int{10}, sevens(15)...), false},      // 1, and 10^15
		{append(tens(16), 10), append(sevens(16), 10), true},                           // 10^16, and 1
		{slices.Repeat([]int{16}, 13), append(slices.Repeat([]int{15}, 12), 8), false}, // 2^49
		{slices.Repeat([]int{16}, 13), slices.Repeat([]int{15}, 13), true},             // 2^52
		{append(slices.Repeat([]int{31}, 11), slices.Repeat([]int{30}, 9)...), append(slices.Repeat([]int{30}, 11), slices.Repeat([]int{29}, 9)...), true},
		{append(slices.Repeat([]int{31}, 10), 30), append(slices.Repeat([]int{30}, 10), 29), false}, // 31^10, as 30 goes into 30^10
	} {
		if isFull := wantRolled(t, c.come, c.first); isFull != c.isFull {
			t.Error(c.come, c.first, isFull)
		}
	}
}

func TestRolledIsExact(t *testing.T) {
	r := rand.New(rand.NewPCG(10, 2))
	full, exact := 0, 0
	for range 500 {
		var come, first []int
		boards := []int{2, 6, 7, 13, 16, 23, 24, 29, 31}[r.IntN(9)]
		for range 1 + r.IntN(20) {
			come = append(come, boards)
			first = append(first, boards-r.IntN(min(boards, 4)))
			if boards > 1 && r.IntN(12) == 0 {
				boards--
			}
		}
		if wantRolled(t, come, first) {
			full++
		} else {
			exact++
		}
	}
	if full < 20 || exact < 100 {
		t.Error("few cases", full, exact)
	}
}

func TestTimes(t *testing.T) {
	at := func(step string, at int) ([]int, api.Errno) { return Times(two(), failing(), step, at) }
	wantList[int](t, "none yet")(at("scan", 4))
	wantList(t, "in the order of their ends", 3, 2, 2)(at("scan", 12))
	wantList(t, "one is undone", 3, 2)(at("scan", 20))
	wantList[int](t, "flash runs")(at("flash", 17))
	wantList(t, "flash", 5)(at("flash", 18))
	wantList[int](t, "nothing")(Times(two(), nil, "scan", 0))
	wantList[int](t, "scrapped")(Times(two(), after("runs", does("s", api.EntryScrap, "b")), "scan", end))
	wantList(t, "at once, and as long as there is time", 0, end)(Times(two(), []api.Entry{
		entry("s", 1, 0, api.EntryEnter, "b"), entry("s", 2, 0, api.EntryEnter, "c"), start("s", 3, 0, "b", "scan"), start("t", 1, 0, "c", "scan"), entry("t", 2, 0, api.EntryPass, "c"), entry("s", 4, end, api.EntryFail, "b"),
	}, "scan", end))
	for _, step := range []string{"", "other", "Scan", long} {
		if times, e := at(step, end); e != api.ErrNone || len(times) != 0 {
			t.Error(step, times, e)
		}
	}
	randomCases(300, func(_ *rand.Rand, f api.Flow, l []api.Entry, at int) {
		taken, _, _ := plainTaken(f, l, at)
		for _, step := range f.Steps {
			var want []int
			for _, r := range plainEnded(taken, step) {
				want = append(want, r.end.At-r.start.At)
			}
			wantList(t, fmt.Sprint(f, l, step, at), want...)(Times(f, l, step, at))
		}
	})
}

func wantBusy(t *testing.T, f api.Flow, l []api.Entry, site string, from, to, want int) {
	t.Helper()
	wantValue(t, fmt.Sprint(f, l, site, from, to), want, api.OK)(Busy(f, l, site, api.Window{From: from, To: to}))
}

func TestBusy(t *testing.T) {
	for _, c := range []struct {
		site           string
		from, to, want int
	}{
		{"a", 0, 2, 0}, {"a", 0, 3, 1}, {"a", 0, 5, 3}, {"a", 0, 6, 3}, {"a", 3, 5, 2}, {"a", 5, 10, 0}, {"a", 4, 11, 2}, {"a", 4, 12, 3},
		{"a", 4, 13, 3}, {"a", 0, 19, 5}, {"a", 0, 20, 5},
		{"a", 0, 21, 14}, {"a", 4, 30, 21}, {"a", 11, 30, 19}, {"a", 25, 30, 5}, {"a", 30, 30, 0},
		{"b", 0, 9, 2}, {"b", 0, 18, 7}, {"b", 0, 17, 6}, {"b", 8, 14, 2}, {"b", 18, api.End, 0},
		{"c", 0, api.End, 0}, {"none", 0, api.End, 0},
		{"a", 0, 0, 0}, {"a", api.End, api.End, 0}, {"a", 0, api.End, api.End - 10 + 3},
	} {
		wantBusy(t, two(), failing(), c.site, c.from, c.to, c.want)
	}
	scrapped := after("runs", does("z", api.EntryScrap, "b"))
	wantBusy(t, two(), scrapped, "s", 0, api.End, 10)
	wantBusy(t, two(), scrapped, "s", 0, 20, 10)
	wantBusy(t, two(), scrapped, "z", 0, api.End, 0)
	late := []api.Entry{entry("s", 1, 0, api.EntryEnter, "b"), start("s", 2, end, "b", "scan")}
	wantBusy(t, two(), late, "s", 0, api.End, 1)
	wantBusy(t, two(), late, "s", 0, end, 0)
	wantBusy(t, two(), nil, "s", 0, api.End, 0)
}

func TestBusyIsPlain(t *testing.T) {
	randomCases(300, func(r *rand.Rand, f api.Flow, l []api.Entry, _ int) {
		most := 50
		from := r.IntN(most)
		w := api.Window{From: from, To: from + r.IntN(most-from)}
		for i := range 4 {
			site := fmt.Sprint("s", 7+i)
			wantBusy(t, f, l, site, w.From, w.To, plainBusy(f, l, site, w))
		}
	})
}

func TestBusyErrors(t *testing.T) {
	for _, site := range []string{"", "A", "1", "a b", long} {
		wantValue(t, site, 0, api.ErrName)(Busy(two(), failing(), site, api.Window{From: 0, To: 1}))
		wantValue(t, site+" before the window", 0, api.ErrName)(Busy(two(), failing(), site, api.Window{From: 2, To: 1}))
	}
	for _, w := range []api.Window{
		{From: -1, To: 1}, {From: -1, To: -1}, {From: 2, To: 1}, {From: 0, To: -1}, {From: 0, To: api.End + 1}, {From: api.End + 1, To: api.End + 1},
		{From: math.MinInt, To: math.MaxInt}, {From: 0, To: math.MaxInt}, {From: 0, To: math.MinInt}, {From: math.MinInt, To: 1}, {From: math.MaxInt, To: 1}, {From: math.MinInt, To: math.MinInt},
	} {
		wantValue(t, fmt.Sprint(w), 0, api.ErrArg)(Busy(two(), failing(), "a", w))
	}
}
