package flash

import (
	"math"
	"math/rand/v2"
	"slices"
	"testing"

	"scanchain/api"
)

func cycle(address, data int) api.Cycle { return api.Cycle{Address: address, Data: data} }

func wantDriven(t *testing.T, name string, f api.Flash, words []int, c []api.Cycle, wantWords, wantIgnored []int) {
	t.Helper()
	after, ignored, e := Drive(f, words, c)
	if e != api.OK || !slices.Equal(after, wantWords) || !slices.Equal(ignored, wantIgnored) {
		t.Errorf("%s: %v %v %v, not %v %v", name, after, ignored, e, wantWords, wantIgnored)
	}
}

func TestCycles(t *testing.T) {
	wantList[api.Cycle](t, "nothing")(Cycles(three(), nil))
	wantList(t, "program", cycle(1365, 170), cycle(682, 85), cycle(1365, 160), cycle(5, 65_535))(Cycles(three(), []api.Op{program(5, 65_535)}))
	wantList(t, "erase", cycle(1365, 170), cycle(682, 85), cycle(1365, 128), cycle(1365, 170), cycle(682, 85), cycle(3, 48))(Cycles(three(), []api.Op{erase(2)}))
	wantList(t, "both",
		cycle(1365, 170), cycle(682, 85), cycle(1365, 128), cycle(1365, 170), cycle(682, 85), cycle(0, 48),
		cycle(1365, 170), cycle(682, 85), cycle(1365, 160), cycle(0, 0),
		cycle(1365, 170), cycle(682, 85), cycle(1365, 128), cycle(1365, 170), cycle(682, 85), cycle(2, 48),
	)(Cycles(three(), []api.Op{erase(0), program(0, 0), erase(1)}))
	randomCases(200, func(r *rand.Rand, f api.Flash) {
		words, o := randomWords(r, f), randomOps(r, f, 10)
		c, e := Cycles(f, o)
		if e != api.OK {
			t.Fatal(e)
		}
		wantDriven(t, "what operations do", f, words, c, applied(f, words, o), nil)
	})
}

// bound returns operations that need 50,000 cycles.
func bound() []api.Op {
	return append(slices.Repeat([]api.Op{erase(1)}, 8_332), program(0, 1), program(0, 1))
}

func TestCyclesSize(t *testing.T) {
	for _, o := range [][]api.Op{bound(), slices.Repeat([]api.Op{program(0, 1)}, 12_500)} {
		if c, e := Cycles(three(), o); e != api.OK || len(c) != 50_000 {
			t.Error(len(c), e)
		}
		if n, e := Shifts(three(), o, 100_000); e != api.OK || n != 50_000*300_005 {
			t.Error(n, e)
		}
		more := append(o, program(0, 1))
		if c, e := Cycles(three(), more); e != api.ErrFull || len(c) != 0 {
			t.Error(len(c), e)
		}
		if n, e := Shifts(three(), more, 1); e != api.ErrFull || n != 0 {
			t.Error(n, e)
		}
		if n, e := Shifts(three(), more, 0); e != api.ErrArg || n != 0 {
			t.Error(n, e)
		}
	}
	if c, e := Cycles(three(), slices.Repeat([]api.Op{erase(0)}, 50_000)); e != api.ErrFull || len(c) != 0 {
		t.Error(len(c), e)
	}
}

func TestShifts(t *testing.T) {
	for _, c := range []struct {
		o          []api.Op
		long, want int
	}{
		{nil, 1, 0},
		{[]api.Op{program(0, 0)}, 1, 4 * 8},
		{[]api.Op{erase(0)}, 1, 6 * 8},
		{[]api.Op{erase(0), program(3, 7), program(0, 0)}, 100, 14 * 305},
		{[]api.Op{program(0, 0)}, 100_000, 4 * 300_005},
	} {
		if n, e := Shifts(three(), c.o, c.long); e != api.OK || n != c.want {
			t.Error(c.o, n, e)
		}
	}
	for _, long := range []int{0, -1, 100_001, math.MinInt, math.MaxInt} {
		if n, e := Shifts(three(), nil, long); e != api.ErrArg || n != 0 {
			t.Error(long, n, e)
		}
	}
}

func TestDrivePrograms(t *testing.T) {
	words := []int{7, 7, 7, 7, 7, 7}
	start := programStart()
	for _, c := range []struct {
		name    string
		last    api.Cycle
		after   []int
		ignored []int
	}{
		{"a word", cycle(0, 5), []int{5, 7, 7, 7, 7, 7}, nil},
		{"the last word", cycle(5, 65_532), []int{7, 7, 7, 7, 7, 4}, nil},
		{"240 is a word here", cycle(1, 240), []int{7, 0, 7, 7, 7, 7}, nil},
		{"170 is a word here", cycle(2, 170), []int{7, 7, 2, 7, 7, 7}, nil},
		{"no address", cycle(6, 0), words, []int{3}},
		{"an address is not cut", cycle(65_535, 0), words, []int{3}},
		{"240 at no address", cycle(6, 240), words, []int{3}},
		{"a start at no address", cycle(1365, 170), words, []int{3}},
	} {
		wantDriven(t, c.name, three(), words, append(start, c.last), c.after, c.ignored)
		again := slices.Concat(start, []api.Cycle{c.last, cycle(682, 85)}, start, []api.Cycle{c.last})
		ignored := append(slices.Clone(c.ignored), 4)
		if len(c.ignored) > 0 {
			ignored = append(ignored, 8)
		}
		wantDriven(t, c.name+": the memory reads after it", three(), words, again, c.after, ignored)
	}
}

func TestDriveErases(t *testing.T) {
	const erased = 65_535
	words := []int{0, 0, 0, 0, 0, 0}
	start := eraseStart()
	for _, c := range []struct {
		name    string
		last    api.Cycle
		after   []int
		ignored []int
	}{
		{"a sector", cycle(0, 48), []int{erased, erased, 0, 0, 0, 0}, nil},
		{"not its first address", cycle(4, 48), []int{0, 0, 0, erased, erased, erased}, nil},
		{"no address", cycle(6, 48), words, []int{5}},
		{"no address", cycle(1365, 48), words, []int{5}},
		{"other data", cycle(0, 49), words, []int{5}},
		{"the data of Program", cycle(1365, 160), words, []int{5}},
		{"the start of a sequence", cycle(1365, 170), words, []int{5}},
		{"240", cycle(0, 240), words, nil},
		{"240 at no address", cycle(6, 240), words, nil},
	} {
		wantDriven(t, c.name, three(), words, append(start, c.last), c.after, c.ignored)
		wantDriven(t, c.name+": the memory reads after it", three(), words, append(start, c.last, cycle(0, 48), cycle(682, 85)), c.after, append(slices.Clone(c.ignored), 6, 7))
	}
}

func TestDriveIgnores(t *testing.T) {
	words := []int{7, 7, 7, 7, 7, 7}
	whole := append(programStart(), cycle(0, 0))
	programmed := []int{0, 7, 7, 7, 7, 7}
	for _, sequence := range [][]api.Cycle{programStart(), eraseStart()} {
		for long := range sequence {
			begun := sequence[:long]
			for _, wrong := range []api.Cycle{cycle(1365, 169), cycle(1364, 170), cycle(682, 84), cycle(681, 85), cycle(0, 160), cycle(0, 128), cycle(0, 48), cycle(1365, 48), cycle(1365+4_096, 170), cycle(682, 170), cycle(1365, 85)} {
				wantDriven(t, "a cycle that continues nothing", three(), words, slices.Concat(begun, []api.Cycle{wrong}, whole), programmed, []int{long})
			}
			// What is begun is lost, and a start in its middle begins nothing.
			for _, known := range []api.Cycle{cycle(1365, 170), cycle(682, 85), cycle(1365, 160), cycle(1365, 128)} {
				if known == sequence[long] || long == 2 && known.Address == 1365 && known.Data != 170 {
					continue
				}
				wantDriven(t, "a cycle of another place", three(), words, slices.Concat(begun, []api.Cycle{known}, whole), programmed, []int{long})
			}
			for _, address := range []int{0, 682, 1365, 65_535} {
				wantDriven(t, "240", three(), words, slices.Concat(begun, []api.Cycle{cycle(address, 240), cycle(682, 85)}, whole), programmed, []int{long + 1})
			}
			wantDriven(t, "a sequence that is not ended", three(), words, begun, words, nil)
		}
	}
	wantDriven(t, "no cycles", three(), words, nil, words, nil)
	wantDriven(t, "240 alone", three(), words, []api.Cycle{cycle(0, 240), cycle(9, 240)}, words, nil)
	wantDriven(t, "a second start begins nothing", three(), words, append([]api.Cycle{cycle(1365, 170)}, whole...), words, []int{1, 2, 3, 4})
}

func TestDriveFollowsTheSequences(t *testing.T) {
	randomCases(3_000, func(r *rand.Rand, f api.Flash) {
		words, c := randomWords(r, f), randomCycles(r, f)
		after, ignored := driven(f, words, c)
		wantDriven(t, "random", f, words, c, after, ignored)
	})
}

func TestDriveErrors(t *testing.T) {
	words := make([]int, 6)
	for _, c := range []api.Cycle{cycle(-1, 0), cycle(65_536, 0), cycle(0, -1), cycle(0, 65_536), cycle(math.MinInt, 0), cycle(math.MaxInt, 0), cycle(0, math.MinInt), cycle(0, math.MaxInt)} {
		for _, list := range [][]api.Cycle{{c}, append(programStart(), c), append(eraseStart(), c), {cycle(65_535, 65_535), c}} {
			if after, ignored, e := Drive(three(), words, list); e != api.ErrArg || len(after) != 0 || len(ignored) != 0 {
				t.Error(c, after, ignored, e)
			}
		}
	}
	many := make([]api.Cycle, 50_001)
	many[0].Data = -1
	if after, ignored, e := Drive(three(), words, many); e != api.ErrLarge || len(after) != 0 || len(ignored) != 0 {
		t.Error(len(after), len(ignored), e)
	}
	many[0].Data = 65_535
	if after, ignored, e := Drive(three(), words, many[1:]); e != api.OK || len(after) != 6 || len(ignored) != 50_000 {
		t.Error(len(after), len(ignored), e)
	}
}
