package flash

import (
	"math/rand/v2"
	"slices"
	"testing"

	"scanchain/api"
)

func TestApply(t *testing.T) {
	words := []int{1, 2, 3, 4, 5, 65_535}
	wantList(t, "nothing", words...)(Apply(three(), words, nil))
	wantList(t, "erase the first sector", 65_535, 65_535, 3, 4, 5, 65_535)(Apply(three(), words, []api.Op{erase(0)}))
	wantList(t, "erase the last sector", 1, 2, 3, 65_535, 65_535, 65_535)(Apply(three(), words, []api.Op{erase(2)}))
	wantList(t, "program", 1, 2, 2, 4, 5, 0x5A5A)(Apply(three(), words, []api.Op{program(2, 6), program(5, 0x5A5A), program(0, 65_535)}))
	wantList(t, "one after the other", 1, 2, 8, 4, 5, 65_535)(Apply(three(), words, []api.Op{program(2, 0), erase(1), program(2, 12), program(2, 9)}))
	randomCases(300, func(r *rand.Rand, f api.Flash) {
		words, o := randomWords(r, f), randomOps(r, f, 10)
		wantList(t, "random", applied(f, words, o)...)(Apply(f, words, o))
	})
}

func TestPlan(t *testing.T) {
	const erased = 65_535
	pair := flashOf(2)
	now := []int{erased, erased}
	wantList(t, "the document's example", program(0, 1))(Plan(pair, now, []int{1, erased}))
	wantList(t, "its other one", erase(0), program(0, 2))(Plan(pair, []int{1, erased}, []int{2, erased}))
	wantList[api.Op](t, "the same")(Plan(pair, []int{1, 0}, []int{1, 0}))
	wantList(t, "erased alone", erase(0))(Plan(pair, []int{erased, 0}, now))
	wantList(t, "words that stay are lost", erase(0), program(0, 7), program(1, 1))(Plan(pair, []int{7, 0}, []int{7, 1}))
	wantList(t, "lower, and the value that is wanted", program(0, 4), program(1, 0))(Plan(pair, []int{6, 1}, []int{4, 0}))
	wantList(t, "a bit that is 0 is to be 1, though the word is lower", erase(0), program(0, 1), program(1, 0))(Plan(pair, []int{6, 0}, []int{1, 0}))
	wantList(t, "sectors in their order", program(0, 0), erase(1), program(2, 5), program(3, 1), program(5, 3))(
		Plan(three(), []int{1, 2, 3, 9, erased, 7}, []int{0, 2, 5, 1, erased, 3}))
}

func TestPlanMakesWhatIsWanted(t *testing.T) {
	randomCases(500, func(r *rand.Rand, f api.Flash) {
		now, want := randomWords(r, f), randomWords(r, f)
		o, e := Plan(f, now, want)
		if e != api.OK {
			t.Fatal(f, now, want, e)
		}
		wantList(t, "operations", want...)(Apply(f, now, o))
		c, e := Cycles(f, o)
		if e != api.OK {
			t.Fatal(e)
		}
		words, ignored, e := Drive(f, now, c)
		wantList(t, "cycles", want...)(words, e)
		if len(ignored) != 0 {
			t.Error(o, ignored)
		}
		wantList[api.Op](t, "from words to themselves")(Plan(f, want, want))
	})
}

// leastOps is how many operations it takes to make each image of words of two bits (and ones above them).
func leastOps(f api.Flash, now []int) map[[3]int]int {
	var all []api.Op
	for sector := range f.Sectors {
		all = append(all, erase(sector))
	}
	for address := range now {
		for bits := range 4 {
			all = append(all, program(address, 65_532+bits))
		}
	}
	least := map[[3]int]int{[3]int(now): 0}
	for next := [][]int{now}; len(next) > 0; next = next[1:] {
		for _, op := range all {
			after := applied(f, next[0], []api.Op{op})
			if _, known := least[[3]int(after)]; !known {
				least[[3]int(after)] = least[[3]int(next[0])] + 1
				next = append(next, after)
			}
		}
	}
	return least
}

func TestPlanHasTheFewestOperations(t *testing.T) {
	for _, f := range []api.Flash{flashOf(3), flashOf(1, 2), flashOf(2, 1), flashOf(1, 1, 1)} {
		for start := range 64 {
			now := []int{65_532 + start&3, 65_532 + start>>2&3, 65_532 + start>>4}
			least := leastOps(f, now)
			if len(least) != 64 {
				t.Fatal(len(least))
			}
			for want, fewest := range least {
				if o, e := Plan(f, now, want[:]); e != api.OK || len(o) != fewest {
					t.Errorf("%v: %v to %v: %v %v, not %d", f, now, want, o, e, fewest)
				}
			}
		}
	}
}

func TestPlanOfALargeMemory(t *testing.T) {
	f := flashOf(slices.Repeat([]int{204}, 20)...)
	o, e := Plan(f, make([]int, 4_080), slices.Repeat([]int{1}, 4_080))
	if e != api.OK || len(o) != 4_100 {
		t.Fatal(len(o), e)
	}
	if c, e := Cycles(f, o); e != api.OK || len(c) != 4*4_080+6*20 {
		t.Error(len(c), e)
	}
}

func TestWear(t *testing.T) {
	wantList(t, "nothing", 0, 0, 0)(Wear(three(), nil))
	wantList(t, "programs", 0, 0, 0)(Wear(three(), []api.Op{program(0, 0), program(2, 1)}))
	wantList(t, "erases", 1, 0, 3)(Wear(three(), []api.Op{erase(2), erase(0), program(1, 5), erase(2), erase(2)}))
	wantList(t, "most", 0, 50_000, 0)(Wear(three(), slices.Repeat([]api.Op{erase(1)}, 50_000)))
}

func TestDiffer(t *testing.T) {
	zero := make([]int, 6)
	wantList[api.Window](t, "nowhere")(Differ(three(), zero, zero))
	wantList(t, "everywhere", api.Window{From: 0, To: 6})(Differ(three(), zero, []int{1, 2, 3, 4, 5, 6}))
	wantList(t, "at the ends", api.Window{From: 0, To: 1}, api.Window{From: 5, To: 6})(Differ(three(), zero, []int{1, 0, 0, 0, 0, 1}))
	wantList(t, "over sectors", api.Window{From: 1, To: 4})(Differ(three(), []int{0, 1, 1, 1, 0, 0}, zero))
	wantList(t, "with gaps of one", api.Window{From: 0, To: 2}, api.Window{From: 3, To: 5})(Differ(three(), []int{0, 1, 2, 3, 4, 5}, []int{1, 2, 2, 4, 3, 5}))
	randomCases(200, func(r *rand.Rand, f api.Flash) {
		a, b := randomWords(r, f), randomWords(r, f)
		windows, e := Differ(f, a, b)
		if e != api.OK {
			t.Fatal(e)
		}
		inside := make([]bool, len(a)+1)
		last := -1
		for _, w := range windows {
			if w.From <= last || w.From >= w.To {
				t.Error("not apart", windows)
			}
			for address := w.From; address < w.To; address++ {
				inside[address] = true
			}
			last = w.To
		}
		for address := range a {
			if inside[address] != (a[address] != b[address]) {
				t.Error(a, b, windows)
			}
		}
	})
}
